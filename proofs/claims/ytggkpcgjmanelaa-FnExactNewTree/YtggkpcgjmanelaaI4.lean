import Derived.Test.YtggkpcgjmanelaaI3
/- The program: linkNodes. -/
namespace Go.Proofs.Ytggkpcgjmanelaa
open Go.ChangeShapes Go.WideShapes Go.ChangeAt Go.RowKit
set_option linter.unusedVariables false
open Bt

attribute [local go_sem] Oper.semAt_some

theorem wp_append_at {P : Program} {w : World} {o : Oper} {a : Act} {K : Act → World → Prop} {Q : Exit → Act → World → Prop} (s x : Operand) (t : TypeId)
    (ho : o.op = .call { callee := .builtin .append, args := #[s, x], argTypes := #[t, t] })
    (base : Nat) (e : TypeId) (z : Value) (size bytes : Nat) (ht : P.underlying t = some (.slice e)) (hinfo : (P.info? e).map (fun i => (i.zero, i.size, i.bytes)) = some (some z, size, bytes)) (hzs : z.cells.size = size) (hsz : 0 < size)
    (v : Value) (n : Nat) (xs : List Value) (hs : a.eval s = v) (hown : w.ownsRow base e size v n xs)
    (ad : Addr) (m c : Nat) (news : List Value) (hx : a.eval x = .slice (some ad) m c) (hl : news.length = m * size) (hnews : ∀ j u, news[j]? = some u → w.cell? (ad.add j) = some u) (h1 : ∀ u ∈ news, u.oneCell' = true)
    (hm : 0 < m) (h63 : n + m ≤ 1000000000) (hbytes : bytes ≤ 100000) (hbase : base ≤ w.heap.size)
    (h : ∀ g cap w', w'.ownsRow base e size (.slice (some ⟨g, 0, none⟩) (n + m) cap) (n + m) (xs ++ news) → w.grownBy w' v.ownBlock → (v.ownBlock = some g ∨ g = w.heap.size) → g < w'.heap.size → K (a.put o.dst (.slice (some ⟨g, 0, none⟩) (n + m) cap)) w') : o.wp P a w K Q := by
  obtain ⟨i, hi, hz0, hz1, hz2⟩ := info_parts hinfo
  have hb2 : (n + m) * bytes ≤ 1000000000 * 100000 := Nat.mul_le_mul h63 hbytes
  exact wp_append_lies w s x t ho base e i z size bytes ht hi hz0 hz1 hz2 hzs hsz v n xs hs hown ad m c news hx hl hnews h1 hm (by unfold maxLen; omega) (by omega) hbase w.heap.size rfl h
theorem owns_lt {w : World} {B : Nat} {e : TypeId} {size : Nat} {v : Value} {n : Nat} {xs : List Value} (h : w.ownsRow B e size v n xs) : ∀ k, v.ownBlock = some k → k < w.heap.size := by
  intro k hk
  rcases h.2 with ⟨rfl, _⟩ | ⟨g, cap, cur, rfl, hb, hg, _⟩
  · simp [Value.ownBlock] at hk
  · simp [Value.ownBlock] at hk
    subst hk
    exact box_lt hg
theorem RowS.below {w w' : World} {P : Nat → Prop} {d : Nat} {a : Option Addr} {st : List (Int × Tr)} (h : RowS w P d a st) (hb : Below w.heap.size w w') : RowS w' P d a st := by
  intro hn
  obtain ⟨b, off, e, hc⟩ := h hn
  refine ⟨b, off, e, fun i hi => ?_⟩
  obtain ⟨v, k0, k1, k2⟩ := hc i hi
  exact ⟨v, cell_on k0 hb, cell_on k1 hb, k2.keep (Kp.of_below hb)⟩
/-- The tree that is linked, if there is one. -/
def lk (N : List Nd) (root : Int) : Option Tr := if N.length ≤ 101 then (match link root N 0 [] with | some [(r, t)] => if r = root then some t else none | _ => none) else none
theorem lk_is {N : List Nd} {root : Int} {t : Tr} : lk N root = some t ↔ N.length ≤ 101 ∧ link root N 0 [] = some [(root, t)] := by
  unfold lk
  by_cases h : N.length ≤ 101
  · rw [if_pos h]
    simp only [h, true_and]
    cases hl : link root N 0 [] with
    | none => simp
    | some st =>
      match st, hl with
      | [], _ => simp
      | [(r, u)], _ =>
        simp only
        by_cases e : r = root
        · subst e; simp
        · simp [e]
      | (r, u) :: y :: l, _ => simp
  · rw [if_neg h]; simp [h]
theorem lk_none {N : List Nd} {root : Int} (h : ¬ ∃ t, N.length ≤ 101 ∧ link root N 0 [] = some [(root, t)]) : lk N root = none := by
  cases e : lk N root with
  | none => rfl
  | some t => exact absurd ⟨t, lk_is.1 e⟩ h
/-- What linking answers. -/
def LnkA (w : World) (o : Option Tr) (e : Ending) (w' : World) : Prop :=
  Below w.heap.size w w' ∧ ∃ v, e = .returned (.tuple #[v, .bool o.isSome]) ∧ ∀ t, o = some t → IN w' 101 v t
theorem LnkA.no {w w' : World} {o : Option Tr} {e : Ending} {v : Value} (ho : o = none) (he : e = .returned (.tuple #[v, .bool false])) (hb : Below w.heap.size w w') : LnkA w o e w' := by
  subst ho
  exact ⟨hb, v, he, fun t ht => by simp at ht⟩
theorem LnkA.yes {w w' : World} {o : Option Tr} {t : Tr} {e : Ending} {v : Value} (ho : o = some t) (he : e = .returned (.tuple #[v, .bool true])) (hb : Below w.heap.size w w') (hs : IN w' 101 v t) : LnkA w o e w' := by
  subst ho
  exact ⟨hb, v, he, fun r hr => by simp only [Option.some.injEq] at hr; subst hr; exact hs⟩
theorem drop_gn {N : List Nd} {k : Nat} (h : k < N.length) : N.drop k = gn N k :: N.drop (k + 1) := by
  rw [gn_eq h, List.drop_eq_getElem_cons h]
theorem link_step {root : Int} {N : List Nd} {k : Nat} {st s : List (Int × Tr)} (h : k < N.length) (hs : stp root k (gn N k) st = some s) : link root (N.drop k) k st = link root (N.drop (k + 1)) (k + 1) s := by
  rw [drop_gn h, link, hs]
theorem link_stop {root : Int} {N : List Nd} {k : Nat} {st : List (Int × Tr)} (h : k < N.length) (hs : stp root k (gn N k) st = none) : link root (N.drop k) k st = none := by
  rw [drop_gn h, link, hs]
set_option maxRecDepth 20000 in
set_option maxHeartbeats 4000000 in
theorem linkNodes_any (N : List Nd) (a : Option Addr) (cap : Nat) (root : Int) (w : World) (hN : Nodes w a N) (hn : N.length ≤ 1048576) (hbk : bk N N.length ≤ 1048576) :
    Calls Try.prog 78 #[tv a N.length cap root] w fun e w' => LnkA w (lk N root) e w' := by
  have Hlk1 : Hid (∀ t, lk N root = some t ↔ N.length ≤ 101 ∧ link root N 0 [] = some [(root, t)]) := fun t => lk_is
  have Hlk2 : Hid ((¬ ∃ t, N.length ≤ 101 ∧ link root N 0 [] = some [(root, t)]) → lk N root = none) := fun h => lk_none h
  generalize lk N root = o at *
  obtain ⟨W0, hW0⟩ : ∃ W0, w.alloc (.cells #[.slice a N.length cap, .int .i64 root] 27) = W0 := ⟨_, rfl⟩
  have q0 : Below w.heap.size w W0 := by subst hW0; exact below_alloc _ _
  have HA : Hid (W0.heap[w.heap.size]? = some (.cells #[.slice a N.length cap, .int .i64 root] 27 (0, 0))) := by subst hW0; exact al1 _ _
  obtain ⟨x0, x1, -, -⟩ := box2_cells HA.out
  have zA := box_lt HA.out
  by_cases h101 : N.length ≤ 101
  · have h101' : ¬ (101 : Int) < (N.length : Int) := by omega
    have HN : Hid _ := hN
    clear hN
    go_enter Try.func78, Try.ntmps78
    go_wp2_with fail
    go_loopw [4, 17] (fun ov i wr => ∃ (k : Nat) (st : List (Int × Tr)) (xs : List Value) (P : Nat → Prop), k ≤ N.length ∧ i = .int .i64 k ∧ st.length ≤ k ∧ wr.ownsRow W0.heap.size 137 2 ov st.length xs ∧ KdS wr P k xs st ∧ (∀ b, b < w.heap.size → P b) ∧ (∀ b, P b → b < wr.heap.size ∧ ∀ r, ov.ownBlock = some r → b ≠ r) ∧ Hid (link root N 0 [] = link root (N.drop k) k st) ∧ Below W0.heap.size W0 wr) (fun _ i _ => N.length - (intOf i).toNat)
    case atStart => exact ⟨0, [], [], fun b => b < w.heap.size, Nat.zero_le _, rfl, Nat.le_refl _, ⟨rfl, .inl ⟨rfl, rfl⟩⟩, KdS.nil, fun b hb => hb, fun b hb => ⟨by omega, fun r hr => by simp [Value.ownBlock] at hr⟩, by simp [Hid], Below.refl _ _⟩
    case round =>
      obtain ⟨k, st, xs, P, hk, rfl, hsk, hown, hkd, hP1, hP2, Hlink, hb⟩ := hrel
      have HP1 : Hid _ := hP1
      have HP2 : Hid _ := hP2
      clear hP1 hP2
      have HD : Hid (wr.heap[w.heap.size]? = some (.cells #[.slice a N.length cap, .int .i64 root] 27 (0, 0))) := box_on HA.out hb
      obtain ⟨y0, y1, -, -⟩ := box2_cells HD.out
      clear x0 x1 hW0
      have gw : Below w.heap.size w wr := Below.comp q0 hb
      by_cases hlt : k < N.length
      · obtain ⟨nb, noff, rfl, hcell⟩ := HN.out (by omega)
        obtain ⟨ka, kc, ca, cc, k0, k1, k2, k3, k4, k5, k6⟩ := hcell k hlt
        have hbn := bk_le (N := N) hlt
        have hstp := fun s h => link_step (root := root) (st := st) (s := s) hlt h
        have hstop := fun h => link_stop (root := root) (st := st) hlt h
        obtain ⟨nd, hnd⟩ : ∃ nd, gn N k = nd := ⟨_, rfl⟩
        rw [hnd] at k0 k1 k2 k3 k4 k5 k6 hbn hstp hstop
        clear hnd hcell
        have k0' := cell_on k0 gw
        have k1' := cell_on k1 gw
        have k2' := cell_on k2 gw
        have cH := fun W => hasRightCounts_any nd ((k : Int) == root) ka kc ca cc W (by omega) (by omega)
        have ebq : ((k : Int) == root) = decide ((k : Int) = root) := by rw [Bool.eq_iff_iff]; simp
        obtain ⟨C, hC⟩ : ∃ C, cnt nd ((k : Int) == root) = C := ⟨_, rfl⟩
        rw [hC] at cH
        have HC : Hid (cnt nd (decide ((k : Int) = root)) = C) := by rw [ebq] at hC; exact hC
        clear hC ebq
        obtain ⟨lf, ks, cs⟩ := nd
        have Hstp : Hid _ := hstp
        have Hstop : Hid _ := hstop
        simp only at k0' k1' k2' k3 k4 k5 k6 hbn cH
        clear k0 k1 k2 hstp hstop
        obtain ⟨Wa, hWa⟩ : ∃ Wa, wr.alloc (.cells #[.bool lf, .slice ka ks.length kc, .slice ca cs.length cc] 73) = Wa := ⟨_, rfl⟩
        have ba : Below wr.heap.size wr Wa := by subst hWa; exact below_alloc _ _
        have KA : Hid (Wa.heap[wr.heap.size]? = some (.cells #[.bool lf, .slice ka ks.length kc, .slice ca cs.length cc] 73 (0, 0))) := by subst hWa; exact al1 _ _
        obtain ⟨a0, a1, a2, -, -, -⟩ := box3_cells KA.out
        obtain ⟨ya0, ya1, -, -⟩ := box2_cells (box_on HD.out ba)
        obtain ⟨oa, oc, eo⟩ := owns_form hown
        subst eo
        cases C with
        | false =>
          have hno : o = none := Hlk2.out (by
            rintro ⟨t', -, h⟩
            rw [Hlink.out, Hstop.out (by unfold stp; rw [HC.out]; simp)] at h
            simp at h)
          go_wp2_with (go_at_call 104; refine (cH _).mono ?_; rintro e w1 ⟨rfl, b1⟩)
          go_ret2
          exact LnkA.no hno rfl (Below.comp gw (Below.comp ba b1))
        | true =>
          by_cases hcl : cs.length ≤ st.length
          · obtain ⟨F, hF⟩ : ∃ F : Nat, st.length - cs.length = F := ⟨_, rfl⟩
            have hFl : F ≤ st.length := by omega
            have eF : ((F : Nat) : Int) = (st.length : Int) - (cs.length : Int) := by omega
            obtain ⟨hrow, hdl, hoc⟩ := owns_rest (k := F) hown hkd rfl hFl
            have hsl := fun W => sliceS_from oa st.length oc F hFl W
            have hto := fun W => sliceS_to oa st.length oc F (by omega) W
            rw [eF] at hsl hto
            have hcsl : cs.length = (st.drop F).length := by simp; omega
            have cK := fun W h1 h2 => kidsByNumber_any P k (st.drop F) cs (subS oa F oc) (oc - F) ca cc W hcsl h1 h2 (by simp; omega)
            rw [hdl] at cK
            obtain ⟨bq, hbq⟩ : ∃ bq, decide ((st.drop F).map (·.1) = cs) = bq := ⟨_, rfl⟩
            rw [hbq] at cK
            have Hbq : Hid _ := hbq
            clear hbq
            have Hrow : Hid (RowS wr P k (subS oa F oc) (st.drop F)) := hrow
            have hstp1 : stp root k ⟨lf, ks, cs⟩ st = if (st.drop F).map (·.1) = cs then some (st.take F ++ [((k : Int), ⟨ks, (st.drop F).map (·.2)⟩)]) else none := by
              unfold stp
              rw [if_pos ⟨HC.out, hcl⟩]
              simp only [hF]
            have Hstp1 : Hid _ := hstp1
            have hll : Hid ((st.drop F).length = st.length - F) := hdl
            have hcl' : ¬ (st.length : Int) < (cs.length : Int) := by omega
            obtain ⟨own1, hob⟩ := owns_cut hown hFl
            have Own1 : Hid _ := own1
            have Hob : Hid _ := hob
            have HF : Hid (((F : Nat) : Int) = (st.length : Int) - (cs.length : Int)) := eF
            have Hcsl : Hid (cs.length = (st.drop F).length) := hcsl
            clear hrow hdl hstp1 hF own1 hob hown eF hcsl
            go_wp2_with (go_at_call 104; refine (cH _).mono ?_; rintro e w1 ⟨rfl, b1⟩; have K1 : Hid (w1.heap[wr.heap.size]? = some (.cells #[.bool lf, .slice ka ks.length kc, .slice ca cs.length cc] 73 (0, 0))) := box_on KA.out b1; obtain ⟨u0, u1, u2, -, -, -⟩ := box3_cells K1.out)
            have ba1 := Below.comp ba b1
            have zz1 := ba1.size
            have gw1 := Below.comp gw ba1
            have SB : Hid (∀ W, Below w1.heap.size w1 W → W.cell? ⟨wr.heap.size, 2, none⟩ = some (.slice ca cs.length cc) ∧ Below w1.heap.size w1 W) := fun W g => ⟨cell_on u2 g, g⟩
            clear a0 a1 a2 ya0 ya1 y0 y1 k0' k1' k2' u0 u1 u2 hWa cH
            go_region_held3 (fun W => W.cell? ⟨wr.heap.size, 2, none⟩ = some (.slice ca cs.length cc) ∧ Below w1.heap.size w1 W)
              ((refine SB.out _ ?_; first | assumption | exact Below.drew (Below.refl _ _)))
              (first
              | (go_at_call 105; obtain ⟨-, hw0⟩ := ‹_ ∧ Below w1.heap.size w1 _›; refine (cK _ (Hrow.out.below (Below.comp ba1 hw0)) (k4.below (Below.comp gw1 hw0))).mono ?_; rintro e w2 ⟨b2, z2, x, xn, xc, rfl, hx⟩; have bw2 := Below.comp hw0 b2))
            have zdr : w1.drew.heap.size = w1.heap.size := rfl
            rw [zdr] at hx z2
            clear zdr
            have K2 : Hid (w2.heap[wr.heap.size]? = some (.cells #[.bool lf, .slice ka ks.length kc, .slice ca cs.length cc] 73 (0, 0))) := box_on K1.out bw2
            have gw2 := Below.comp gw1 bw2
            have br2 : Below wr.heap.size wr w2 := Below.comp ba1 bw2
            have zr2 := br2.size
            by_cases heq : (st.drop F).map (·.1) = cs
            · obtain ⟨rfl, rfl, rfl, hrows⟩ := hx heq
              obtain rfl : bq = true := by rw [← Hbq.out]; exact decide_eq_true heq
              have hs2 : Hid (link root N 0 [] = link root (N.drop (k + 1)) (k + 1) (st.take F ++ [((k : Int), ⟨ks, (st.drop F).map (·.2)⟩)])) := by
                show _ = _
                rw [Hlink.out]
                refine Hstp.out _ ?_
                rw [Hstp1.out, if_pos heq]
              obtain ⟨T, u, cN, hIX⟩ : ∃ T u, (∀ W, Calls Try.prog 106 #[.slice ka ks.length kc, .slice (some ⟨w1.heap.size, 0, none⟩) (st.length - F) (st.length - F)] W fun e w' => e = .returned (.iface T u) ∧ W = w') ∧ (∀ W, Kp (fun b => P b ∨ b = w1.heap.size) w2 W → IX W (fun b => P b ∨ b = w1.heap.size) (k + 1) (.iface T u) ⟨ks, (st.drop F).map (·.2)⟩) := by
                have hints : ∀ W, Kp (fun b => P b ∨ b = w1.heap.size) w2 W → IntsP W (fun b => P b ∨ b = w1.heap.size) ka ks := fun W hW =>
                  ((IntsP.of k3 (fun b hb => .inl (HP1.out b hb))).keep (Kp.of_below gw2)).keep hW
                by_cases h0 : st.length - F = 0
                · have hk0 : (st.drop F).map (·.2) = [] := by
                    have : (st.drop F).length = 0 := by rw [hll.out]; exact h0
                    rw [List.eq_nil_of_length_eq_zero this]; rfl
                  rw [h0, hk0]
                  exact ⟨91, _, fun W => (nodeOf_leaf ka ks.length kc _ _ W).mono (fun e w' h => ⟨h.1, h.2.symm⟩), fun W hW => IX_leaf k5 (hints W hW)⟩
                · have hkl : ((st.drop F).map (·.2)).length = st.length - F := by rw [List.length_map, hll.out]
                  have hkne : (st.drop F).map (·.2) ≠ [] := by
                    intro h
                    rw [h] at hkl
                    simp at hkl
                    omega
                  refine ⟨101, _, fun W => (nodeOf_fork ka ks.length kc _ _ _ W h0).mono (fun e w' h => ⟨h.1, h.2.symm⟩), fun W hW => ?_⟩
                  rw [← hkl]
                  refine IX_fork hkne k5 (hints W hW) (Nat.le_refl _) (.inr rfl) (fun i hi => ?_)
                  rw [hkl] at hi
                  obtain ⟨v, c0, c1⟩ := hrows i hi
                  have eg : gt ((st.drop F).map (·.2)) i = (gs (st.drop F) i).2 := by
                    have h1 : i < (st.drop F).length := by rw [hll.out]; exact hi
                    rw [gt_eq (by rw [hkl]; exact hi), gs_eq h1]
                    simp
                  rw [eg]
                  have c1' : IX w2 (fun b => P b ∨ b = w1.heap.size) k v (gs (st.drop F) i).2 := (c1.keep (Kp.of_below b2)).imp (fun b _ hb => .inl hb)
                  exact ⟨v, by rw [Nat.zero_add]; exact cell_same c0 (hW _ (.inr rfl) z2), c1'.keep hW⟩
              obtain ⟨e0, e1, e2, -, -, -⟩ := box3_cells K2.out
              have SB2 : Hid (∀ W, Below w2.heap.size w2 W → W.cell? ⟨wr.heap.size, 1, none⟩ = some (.slice ka ks.length kc) ∧ Below w2.heap.size w2 W) := fun W g => ⟨cell_on e1 g, g⟩
              have bWb : Below w2.heap.size w2 (w2.drew.alloc (.cells #[iv (k : Int), .iface T u] 137)) := (Below.refl _ _).drew.alloc (Nat.le_refl _) _
              have own13 : (w2.drew.alloc (.cells #[iv (k : Int), .iface T u] 137)).ownsRow W0.heap.size 137 2 (.slice (subS oa 0 oc) F oc) F (xs.take (F * 2)) := owns_below Own1.out (Below.comp br2 bWb)
              have news13 : ∀ j v, [iv (k : Int), Value.iface T u][j]? = some v → (w2.drew.alloc (.cells #[iv (k : Int), .iface T u] 137)).cell? ((⟨w2.heap.size, 0, none⟩ : Addr).add j) = some v := World.news_of_block (cs := #[iv (k : Int), .iface T u]) (al1 w2.drew (.cells #[iv (k : Int), .iface T u] 137))
              have one13 : ∀ v ∈ [iv (k : Int), Value.iface T u], v.oneCell' = true := by simp [Value.oneCell']
              have z13 : W0.heap.size ≤ (w2.drew.alloc (.cells #[iv (k : Int), .iface T u] 137)).heap.size := Nat.le_trans (Nat.le_trans hb.size zr2) bWb.size
              have hF9 : F + 1 ≤ 1000000000 := by omega
              clear hx hrows e0 e2
              go_wp2_with fail
              clear e1
              have hRlt := owns_lt Own1.out
              have e1b := (SB2.out _ bWb).1
              go_region_held3 (fun W => W.cell? ⟨wr.heap.size, 1, none⟩ = some (.slice ka ks.length kc))
                (first | assumption | exact (SB2.out _ (Below.drew (Below.refl _ _))).1)
                (first
                | (go_at_call 106; refine (cN _).mono ?_; rintro e w3 ⟨rfl, rfl⟩)
                | (refine wp_append_at _ _ 131 rfl W0.heap.size 137 _ 2 24 Try.underlying131 info137 rfl (by decide) (.slice (subS oa 0 oc) F oc) F (xs.take (F * 2)) rfl own13 ⟨w2.heap.size, 0, none⟩ 1 1 [iv (k : Int), .iface T u] rfl rfl news13 one13 (by decide) hF9 (by decide) z13 ?_; intro g cp w4 own4 gr4 hg hlt4; have e14 : w4.cell? ⟨wr.heap.size, 1, none⟩ = some (.slice ka ks.length kc) := cell_same e1b (gr4.block _ (lt_of_cell e1b) (fun e => absurd (hRlt _ e.symm) (Nat.lt_irrefl _)))))
              have hOb : ∀ r, (Value.slice (subS oa 0 oc) F oc).ownBlock = some r → ∀ b, P b → b ≠ r := fun r hr b hb => (HP2.out b hb).2 r (by rw [← Hob.out]; exact hr)
              have hKp : Hid (Kp (fun b => P b ∨ b = w1.heap.size) w2 w4) := fun b hb hlt => by
                have h1 := gr4.block b (Nat.lt_of_lt_of_le hlt bWb.size) (fun e => by
                  rcases hb with hb | hb
                  · exact hOb b e.symm b hb rfl
                  · have := hRlt b e.symm
                    omega)
                exact h1.trans (bWb.block b hlt)
              have hsz : (w2.drew.alloc (.cells #[iv (k : Int), .iface T u] 137)).heap.size = w2.heap.size + 1 := sz1 _ _
              have hg' : (Value.slice (subS oa 0 oc) F oc).ownBlock = some g ∨ g = w2.heap.size + 1 := by rcases hg with h | h; exact .inl h; exact .inr (h.trans hsz)
              have z4 : w2.heap.size ≤ w4.heap.size := Nat.le_trans bWb.size gr4.size
              have hBl : Below W0.heap.size W0 w4 := (((hb.trans (br2.mono hb.size)).trans (bWb.mono (Nat.le_trans hb.size zr2)))).trans (Grown.below gr4 z13 (owns_ge own13))
              have hlen9 : Hid ((st.take F ++ [((k : Int), (⟨ks, (st.drop F).map (·.2)⟩ : Tr))]).length = F + 1) := by
                show _ = _
                simp
                omega
              have OW : Hid _ := own4
              clear gr4 hg own4 own13 news13 one13 z13 e1b e14 bWb
              go_wp2_with fail
              go_roundw
              case rel =>
                refine ⟨k + 1, st.take F ++ [((k : Int), ⟨ks, (st.drop F).map (·.2)⟩)], xs.take (F * 2) ++ [iv (k : Int), .iface T u], fun b => P b ∨ b = w1.heap.size, by omega, by go_num, by rw [hlen9.out]; omega, by rw [hlen9.out]; exact OW.out, ?_, fun b hb => .inl (HP1.out b hb), ?_, hs2, hBl⟩
                · exact KdS.snoc ((((hkd.mono).keep (Kp.of_below br2)).imp (fun b _ hb => .inl hb)).keep hKp.out) hFl (hIX w4 hKp.out)
                · intro b hb
                  refine ⟨?_, fun r hr => ?_⟩
                  · rcases hb with hb | hb
                    · have := (HP2.out b hb).1; omega
                    · omega
                  · simp [Value.ownBlock] at hr
                    subst hr
                    rcases hg' with h | h
                    · rcases hb with hb | hb
                      · exact hOb g h b hb
                      · have := hRlt g h; omega
                    · rcases hb with hb | hb
                      · have := (HP2.out b hb).1; omega
                      · omega
              case measure => simp [intOf]; omega
            · obtain rfl : bq = false := by rw [← Hbq.out]; exact decide_eq_false heq
              have hno : o = none := Hlk2.out (by
                rintro ⟨t', -, h⟩
                rw [Hlink.out, Hstop.out (by rw [Hstp1.out, if_neg heq])] at h
                simp at h)
              go_wp2_with fail
              go_ret2
              exact LnkA.no hno rfl gw2
          · have d1 : (st.length : Int) < (cs.length : Int) := by omega
            have hno : o = none := Hlk2.out (by
              rintro ⟨t', -, h⟩
              rw [Hlink.out, Hstop.out (by unfold stp; rw [if_neg]; rintro ⟨-, h2⟩; exact hcl h2)] at h
              simp at h)
            go_wp2_with (go_at_call 104; refine (cH _).mono ?_; rintro e w1 ⟨rfl, b1⟩; obtain ⟨u0, u1, u2, -, -, -⟩ := box3_cells (box_on KA.out b1))
            go_ret2
            exact LnkA.no hno rfl (Below.comp gw (Below.comp ba b1))
      · have hkn : k = N.length := by omega
        have hlk : link root N 0 [] = some st := by rw [Hlink.out, hkn, List.drop_length]; rfl
        have HKN : Hid _ := hkn
        clear hkn
        by_cases h1 : st.length = 1
        · obtain ⟨⟨r, t⟩, rfl⟩ : ∃ x, st = [x] := by
            match st, h1 with
            | [x], _ => exact ⟨x, rfl⟩
          obtain ⟨v, e0, e1, hix⟩ := hkd.2 0 (by simp)
          simp only [gs, List.getD_cons_zero] at e0 e1 hix
          rcases hown.2 with ⟨-, h2⟩ | ⟨R, oc, cur, rfl, hRb, hRg, hRc, hRm, hRs, hRt⟩
          · simp at h2
          · rw [← hRt, List.getElem?_take, if_pos (by simp)] at e0 e1
            have c0 : wr.cell? ⟨R, 0, none⟩ = some (iv r) := cell_of_block hRg (by simpa using e0)
            have c1 : wr.cell? ⟨R, 1, none⟩ = some v := cell_of_block hRg (by simpa using e1)
            obtain ⟨T, u, rfl⟩ := hix.inn.form
            simp only [List.length_cons, List.length_nil, Nat.zero_add]
            by_cases hr : r = root
            · subst hr
              have hyes : o = some t := (Hlk1.out t).2 ⟨h101, hlk⟩
              have d2 : (r != r) = false := by simp
              clear hlk Hlink
              go_wp2_with fail
              go_quiet (fail)
              go_wp2_with fail
              go_ret2
              exact LnkA.yes hyes rfl (below_drewN gw _) ((IN.le (hix.inn) (by omega)).below (below_drewN (Below.refl _ _) _))
            · have d2 : (r != root) = true := by simp; exact hr
              have hno : o = none := Hlk2.out (by
                rintro ⟨t', -, h⟩
                rw [hlk] at h
                simp only [Option.some.injEq, List.cons.injEq, Prod.mk.injEq, and_true] at h
                exact hr h.1)
              clear hlk Hlink
              go_wp2_with fail
              go_quiet (fail)
              go_wp2_with fail
              go_ret2
              exact LnkA.no hno rfl (below_drewN gw _)
        · have d1 : ((st.length : Int) != 1) = true := by simp; omega
          have hno : o = none := Hlk2.out (by
            rintro ⟨t', -, h⟩
            rw [hlk] at h
            simp only [Option.some.injEq] at h
            rw [h] at h1
            exact h1 rfl)
          obtain ⟨oa, oc, eo⟩ := owns_form hown
          subst eo
          clear hlk Hlink
          go_wp2_with fail
          go_quiet (fail)
          go_wp2_with fail
          go_ret2
          exact LnkA.no hno rfl (below_drewN gw _)
  · have h101' : (101 : Int) < (N.length : Int) := by omega
    have hno : o = none := Hlk2.out (by rintro ⟨t, h, -⟩; exact h101 h)
    go_enter Try.func78, Try.ntmps78
    go_wp2_with fail
    go_ret2
    exact LnkA.no hno rfl q0
end Go.Proofs.Ytggkpcgjmanelaa
