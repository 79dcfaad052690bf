import Derived.Test.YtggkpcgjmanelaaH2
import Derived.Test.YtggkpcgjmanelaaD1
/- HasKey, both sides. -/
namespace Go.Proofs.Ytggkpcgjmanelaa
open Go.ChangeShapes Go.WideShapes Go.ChangeAt Go.RowKit
set_option linter.unusedVariables false
open Bt

attribute [local go_sem] Oper.semAt_some

theorem look_hit {h : Nat} {t : Tr} {key : Int} (h1 : hsK t.keys key = true) : look (h + 1) t key = (true, 1) := by
  obtain ⟨ks, cs⟩ := t
  simp only at h1
  unfold look
  rw [if_pos h1]
theorem look_leaf {h : Nat} {t : Tr} {key : Int} (h1 : hsK t.keys key = false) (h2 : t.kids.isEmpty = true) : look (h + 1) t key = (false, 1) := by
  obtain ⟨ks, cs⟩ := t
  simp only at h1 h2
  unfold look
  rw [if_neg (by rw [h1]; simp), if_pos h2]
theorem look_down {h : Nat} {t : Tr} {key : Int} (h1 : hsK t.keys key = false) (h2 : t.kids.isEmpty = false) : look (h + 1) t key = ((look h (gt t.kids (la t.keys key)) key).1, (look h (gt t.kids (la t.keys key)) key).2 + 1) := by
  obtain ⟨ks, cs⟩ := t
  simp only at h1 h2
  rw [look, if_neg (by rw [h1]; simp), if_neg (by rw [h2]; simp)]
set_option maxHeartbeats 4000000 in
theorem l7Has_any (key : Int) (h0 : Nat) (root : Bool) (t0 : Tr) (d : Nat) (v : Value) (w : World) (hok : Ok root h0 t0) (hs : SN w d v t0) (hh : h0 ≤ 1000) :
    Calls Try.prog 66 #[v, .int .i64 key] w fun e w' => e = .returned (.tuple #[.bool (look h0 t0 key).1, .int .i64 (look h0 t0 key).2]) ∧ Below w.heap.size w w' := by
  obtain ⟨d, rfl⟩ : ∃ d', d = d' + 1 := by
    cases d with
    | zero => exact absurd hs (by simp [SN])
    | succ d => exact ⟨d, rfl⟩
  obtain ⟨a, c, a', c', rfl, h1, h2, h3, h4⟩ := SN_succ.1 hs
  have HR : Hid (∀ x, look h0 t0 key = x → look h0 t0 key = x) := fun x hx => hx
  obtain ⟨W0, hW0⟩ : ∃ W0, w.alloc (.cells #[.slice a t0.keys.length c, .slice a' t0.kids.length c'] 67) = W0 := ⟨_, rfl⟩
  have hb0 : Below w.heap.size w W0 := by subst hW0; exact below_alloc _ _
  have H1 : Hid (W0.heap[w.heap.size]? = some (.cells #[.slice a t0.keys.length c, .slice a' t0.kids.length c'] 67 (0, 0))) := by subst hW0; exact al1 _ _
  clear h1 h2 h3 h4
  go_enter Try.func66, Try.ntmps66
  go_wp2_with fail
  go_loopw [6] (fun sv wr => ∃ (s h : Nat) (t : Tr) (r : Bool) (d : Nat) (p q : Value), sv = .int .i64 s ∧ 1 ≤ s ∧ s + h = h0 + 1 ∧ Ok r h t ∧ SN w d (.agg #[p, q]) t ∧ Hid (wr.heap[w.heap.size]? = some (.cells #[p, q] 67 (0, 0))) ∧ Hid (look h0 t0 key = ((look h t key).1, (look h t key).2 + (s - 1))) ∧ Below w.heap.size w wr) (fun i _ => h0 + 1 - (intOf i).toNat)
  case atStart => exact ⟨1, h0, t0, root, d + 1, _, _, rfl, Nat.le_refl _, by omega, hok, hs, H1, by simp [Hid], hb0⟩
  case round =>
    obtain ⟨s, h, t, r, d, p, q, rfl, hs1, hsh, hok', hsn, HB, HL, hb⟩ := hrel
    clear hW0 hok hs H1
    have hsn' := hsn
    obtain ⟨h, rfl⟩ : ∃ h', h = h' + 1 := by
      cases h with
      | zero => simp [Ok] at hok'
      | succ h => exact ⟨h, rfl⟩
    obtain ⟨d, rfl⟩ : ∃ d', d = d' + 1 := by
      cases d with
      | zero => exact absurd hsn (by simp [SN])
      | succ d => exact ⟨d, rfl⟩
    obtain ⟨ka, kc, ca, cc, e, k1, k2, k3, k4⟩ := SN_succ.1 hsn
    simp at e
    obtain ⟨rfl, rfl⟩ := e
    have cA := fun W h => l7At_any ka t.keys kc key W (by have := hok'; obtain ⟨ks, cs⟩ := t; simp only [Ok] at this; simp only; omega) h
    have cL := fun W h => l7Leaf_any (d := d + 1) (v := nv ka t.keys.length kc ca t.kids.length cc) (t := t) W h
    obtain ⟨x0, x1, x2, x3⟩ := box2_cells HB.out
    have hhit := fun hh => look_hit (h := h) (t := t) (key := key) hh
    have hleaf := fun hh hz => look_leaf (h := h) (t := t) (key := key) hh hz
    have hdown := fun hh hz => look_down (h := h) (t := t) (key := key) hh hz
    have Hhit : Hid _ := hhit
    have Hleaf : Hid _ := hleaf
    have Hdown : Hid _ := hdown
    have hla := la_le t.keys key
    clear hhit hleaf hdown
    obtain ⟨B, hB⟩ : ∃ B, hsK t.keys key = B := ⟨_, rfl⟩
    rw [hB] at cA
    have HBq : Hid _ := hB
    clear hB
    go_wp2_with fail
    refine (cA _ (k3.below hb)).mono ?_
    rintro e w1 ⟨rfl, b1⟩
    have g1 := hb.trans (b1.mono hb.size)
    have HB1 : Hid (w1.heap[w.heap.size]? = some (.cells #[.slice ka t.keys.length kc, .slice ca t.kids.length cc] 67 (0, 0))) := box_on HB.out b1
    clear x0 x1 x2 x3
    obtain ⟨x0, x1, x2, x3⟩ := box2_cells HB1.out
    cases B with
    | true =>
      go_wp2_with (refine ⟨fun f h => absurd h (by simp), ?_⟩)
      go_ret2
      rw [HL.out, Hhit.out HBq.out]
      exact ⟨by simp; omega, g1⟩
    | false =>
      obtain ⟨Z, hZ⟩ : ∃ Z, t.kids.isEmpty = Z := ⟨_, rfl⟩
      rw [hZ] at cL
      have HZ : Hid _ := hZ
      clear hZ
      go_wp2_with fail
      refine (cL _ (hsn.below g1)).mono ?_
      rintro e w2 ⟨rfl, b2⟩
      have g2 := g1.trans (b2.mono g1.size)
      have HB2 : Hid (w2.heap[w.heap.size]? = some (.cells #[.slice ka t.keys.length kc, .slice ca t.kids.length cc] 67 (0, 0))) := box_on HB1.out b2
      clear x0 x1 x2 x3
      obtain ⟨x0, x1, x2, x3⟩ := box2_cells HB2.out
      cases Z with
      | true =>
        go_wp2_with fail
        go_ret2
        rw [HL.out, Hleaf.out HBq.out HZ.out]
        exact ⟨by simp; omega, g2⟩
      | false =>
        obtain ⟨hcl, hko⟩ : t.kids.length = t.keys.length + 1 ∧ ∀ x, x ∈ t.kids → Ok false h x := by
          obtain ⟨ks, cs⟩ := t
          simp only [Ok] at hok'
          obtain ⟨-, -, h9⟩ := hok'
          rcases h9 with ⟨rfl, -⟩ | h9
          · have := HZ.out; simp at this
          · exact h9
        have hlt : la t.keys key < t.kids.length := by omega
        obtain ⟨kb, ko, rfl, hcell⟩ := k4 (by omega)
        obtain ⟨p, q, m0, m1, m2⟩ := hcell _ hlt
        have hm := hko _ (gt_mem hlt)
        have m0' := cell_on m0 g2
        have m1' := cell_on m1 g2
        have hd9 := Hdown.out HBq.out HZ.out
        have HD9 : Hid _ := hd9
        obtain ⟨pa, pc, qa, qc, rfl, rfl⟩ := m2.form
        clear hcell hd9 m0 m1 k4 hko
        generalize hx : gt t.kids (la t.keys key) = x at *
        generalize hK : la t.keys key = K at *
        have hKl : (K : Int) < (t.kids.length : Int) := by omega
        go_wp2_with fail
        go_roundw
        case rel =>
          refine ⟨s + 1, h, x, false, d, .slice pa x.keys.length pc, .slice qa x.kids.length qc, by go_num, by omega, by omega, hm, m2, ?_, ?_, (g2.setCell (by simp) _).setCell (by simp) _⟩
          · exact box2_set HB2.out
          · show _ = _
            rw [HL.out, HD9.out]
            simp
            omega
        case measure => simp [intOf]; omega
/-- What HasKey answers. -/
def hOf (o : Option Tr) (key : Int) : Bool × Nat := match o with | none => (false, 0) | some t => look (dp t true) t key
set_option maxHeartbeats 1000000 in
theorem specHas_any (N : List Nd) (a : Option Addr) (cap : Nat) (root : Int) (key : Int) (o : Option Tr) (w : World) (hN : Nodes w a N) (hn : N.length ≤ 1048576) (hbk : bk N N.length ≤ 1048576) (ho : ∀ t, o = some t ↔ Is N root t) :
    Calls Try.prog 37 #[tv a N.length cap root, .int .i64 key] w fun e w' => e = .returned (.tuple #[.bool (hOf o key).1, .int .i64 (hOf o key).2, .bool o.isSome]) ∧ Below w.heap.size w w' := by
  have cR := fun W h => l7Of_any N a cap root o W h hn hbk ho
  have q0 := below_alloc w (.cells #[.slice a N.length cap, .int .i64 root] 27)
  go_enter Try.func37, Try.ntmps37
  go_wp2_with fail
  refine (cR _ (hN.below q0)).mono ?_
  rintro e w1 ⟨b1, x, n, c, x', n', c', rfl, hv⟩
  have g1 := Below.comp q0 b1
  have q1 := below_alloc w1 (.cells #[.slice x n c, .slice x' n' c'] 67)
  cases o with
  | none =>
    simp only [Option.isSome_none]
    go_wp2_with fail
    go_ret3
    exact ⟨rfl, Below.comp g1 q1⟩
  | some t =>
    have hs := (ho t).1 rfl
    obtain ⟨hwf, hfl⟩ := is_small hs
    obtain ⟨hh, hok⟩ := hs.2.2.1
    have hd := hok.dp
    have hlow := hok.low hfl
    rw [← hd] at hok hlow
    clear hd
    have cD := l7Has_any key _ true t 20 _ _ hok ((hv t rfl).below q1) (by omega)
    simp only [Option.isSome_some]
    go_wp2_with fail
    refine cD.mono ?_
    rintro e w2 ⟨rfl, b2⟩
    go_wp2_with fail
    go_ret3
    exact ⟨rfl, Below.comp (Below.comp g1 q1) b2⟩
set_option maxHeartbeats 1000000 in
theorem implHas_any (N : List Nd) (a : Option Addr) (cap : Nat) (root : Int) (key : Int) (o : Option Tr) (w : World) (hN : Nodes w a N) (hn : N.length ≤ 1048576) (hbk : bk N N.length ≤ 1048576) (ho : ∀ t, o = some t ↔ Is N root t) :
    Calls Try.prog 19 #[tv a N.length cap root, .int .i64 key] w fun e w' => e = .returned (.tuple #[.bool (hOf o key).1, .int .i64 (hOf o key).2, .bool o.isSome]) ∧ Below w.heap.size w w' := by
  have cR := fun W h => rootOf_any N a cap root o W h hn hbk ho
  have q0 := below_alloc w (.cells #[.slice a N.length cap, .int .i64 root] 27)
  go_enter Try.func19, Try.ntmps19
  go_wp2_with fail
  refine (cR _ (hN.below q0)).mono ?_
  rintro e w1 ⟨b1, v, rfl, hv⟩
  have g1 := Below.comp q0 b1
  cases o with
  | none =>
    simp only [Option.isSome_none]
    go_wp2_with fail
    go_ret3
    exact ⟨rfl, g1⟩
  | some t =>
    have hs := (ho t).1 rfl
    obtain ⟨hwf, hfl⟩ := is_small hs
    obtain ⟨hh, hok⟩ := hs.2.2.1
    have hd := hok.dp
    have hlow := hok.low hfl
    rw [← hd] at hok hlow
    clear hd
    have cD := lookFor_any key _ true t 101 _ _ hok (hv t rfl) hs.2.2.2.1 (by omega)
    simp only [Option.isSome_some]
    obtain ⟨T, u, rfl⟩ := (hv t rfl).form
    go_wp2_with fail
    refine cD.mono ?_
    rintro e w2 ⟨rfl, b2⟩
    go_wp2_with fail
    go_ret3
    exact ⟨rfl, Below.comp g1 b2⟩
end Go.Proofs.Ytggkpcgjmanelaa
