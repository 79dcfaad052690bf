import Derived.Test.YthioomihpfmlmaaI5
import Derived.Test.YthioomihpfmlmaaS2
import Derived.Test.YthioomihpfmlmaaT3
/- The specification: all paths below an inode, each put in its place. -/
namespace Go.Proofs.Ythioomihpfmlmaa
open Go.ChangeShapes Go.WideShapes Go.ChangeAt Go.RowKit
set_option linter.unusedVariables false
open Hd

attribute [local go_sem] Oper.semAt_some

/-- A row of texts as a value, and where it can be read. -/
def RowS (w : World) (v : Value) (l : List ByteArray) : Prop := ∃ x c, v = .slice x l.length c ∧ l.length ≤ c ∧ Strs w x l
theorem RowS.below {w w' : World} {v : Value} {l : List ByteArray} (h : RowS w v l) (hb : Below w.heap.size w w') : RowS w' v l := by
  obtain ⟨x, c, e, h1, h2⟩ := h
  exact ⟨x, c, e, h1, Strs.on h2 hb⟩
theorem gs_take {l : List ByteArray} {k i : Nat} (h : i < k) : gs (l.take k) i = gs l i := by simp [gs, h]
theorem Strs.take {w : World} {a : Option Addr} {l : List ByteArray} (h : Strs w a l) {k : Nat} (hk : k ≤ l.length) : Strs w a (l.take k) := by
  intro hn
  simp at hn
  obtain ⟨b, off, rfl, hcell⟩ := h (by omega)
  refine ⟨b, off, rfl, fun i hi => ?_⟩
  have hi' : i < k := by simp at hi; omega
  show w.cell? _ = some (.string (gs (l.take k) i))
  rw [gs_take hi']
  exact hcell i (by omega)
theorem ins_at {p : ByteArray} : ∀ {l : List ByteArray} {j : Nat}, j ≤ l.length → (∀ i, i < j → les (gs l i) p = true) → (j < l.length → les (gs l j) p = false) → ins p l = l.take j ++ p :: l.drop j := by
  intro l
  induction l with
  | nil => intro j hj _ _; have : j = 0 := by simpa using hj
           subst this; rfl
  | cons x l ih =>
    intro j hj h1 h2
    cases j with
    | zero =>
      have : les x p = false := h2 (by simp)
      rw [ins, this]
      rfl
    | succ j =>
      have : les x p = true := h1 0 (by omega)
      rw [ins, this, if_pos rfl, ih (by simpa using hj) (fun i hi => h1 (i + 1) (by omega)) (fun h => h2 (by simpa using h))]
      rfl
set_option maxHeartbeats 4000000 in
set_option maxRecDepth 20000 in
theorem paths_step {T : List Ino} (hok : ∀ k, k < T.length → okN T.length (gn T k)) (w0 : World) (a : Option Addr) (cap : Nat) (hI : Inos w0 a T) (h1 : 1 ≤ T.length) (hn : T.length ≤ 60) (f : Nat)
    (IH : f ≠ 0 → ∀ (k : Nat) (s : ByteArray) (v : Value) (out : List ByteArray) (w : World), k < T.length → dz T (f - 1) k → s.size + 13 * f ≤ 1000 → 1 ≤ out.length → (pb T f k s).length + out.length ≤ 2000 → Below w0.heap.size w0 w → RowS w v out →
      Calls Try.prog 31 #[tv a T.length cap, .int .i64 (k : Int), .string s, v] w fun e w' => Below w.heap.size w w' ∧ ∃ v', e = .returned v' ∧ RowS w' v' (isr (pb T f k s) out))
    (k : Nat) (s : ByteArray) (v : Value) (out : List ByteArray) (w : World) (hk : k < T.length) (hz : dz T f k) (hs : s.size + 13 * (f + 1) ≤ 1000) (ho1 : 1 ≤ out.length) (hl : (pb T (f + 1) k s).length + out.length ≤ 2000) (hb : Below w0.heap.size w0 w) (hv : RowS w v out) :
    Calls Try.prog 31 #[tv a T.length cap, .int .i64 (k : Int), .string s, v] w fun e w' => Below w.heap.size w w' ∧ ∃ v', e = .returned v' ∧ RowS w' v' (isr (pb T (f + 1) k s) out) := by
  obtain ⟨b, off, rfl, hcell⟩ := hI (by omega)
  obtain ⟨W0, hW0⟩ : ∃ W0, w.alloc (.cells #[.slice (some ⟨b, off, none⟩) T.length cap] 24) = W0 := ⟨_, rfl⟩
  have q0 : Below w.heap.size w W0 := by subst hW0; exact below_alloc _ _
  have hb0 : Below w0.heap.size w0 W0 := hb.trans (q0.mono hb.size)
  have HX : Hid (W0.heap[w.heap.size]? = some (.cells #[.slice (some ⟨b, off, none⟩) T.length cap] 24 (0, 0))) := by subst hW0; exact al1 _ _
  obtain ⟨i0, -⟩ := box1_cells HX.out
  obtain ⟨ka, kc, k0, k1, k2, k3, -⟩ := (hcell k hk).below hb0
  have hkn : (k : Int) < (T.length : Int) := by omega
  have HC : Hid (∀ W, Below W0.heap.size W0 W → Nms W ka (gn T k).ns) := fun W h => Inos.names (hcell k hk) hb0 (hb0.trans (h.mono hb0.size)) k2
  have HB0 : Hid (∀ W, Below W0.heap.size W0 W → Below w0.heap.size w0 W) := fun W h => hb0.trans (h.mono hb0.size)
  have HOk : Hid _ := hok k hk
  have hml := (hok k hk).2.2
  have HIH : Hid _ := IH
  have HPart : Hid (∀ i, i < (gn T k).ns.length → (((gn T k).ns.take i).flatMap (p1 T f s)).length + 1 + (pb T f (tg (gm (gn T k).ns i)) (jn s (gm (gn T k).ns i).nm)).length + out.length ≤ 2000) := fun i hi => by have := part_le (T := T) (f := f) (s := s) hi; omega
  have HFz : Hid (∀ i, i < (gn T k).ns.length → f ≠ 0 ∧ dz T (f - 1) (tg (gm (gn T k).ns i))) := fun i hi => by
    cases f with
    | zero =>
      have h9 : (gn T k).ns = [] := hz
      rw [h9] at hi
      simp at hi
    | succ f => exact ⟨by omega, hz _ (by rw [gm_eq hi]; exact List.getElem_mem _)⟩
  have HTn : Hid (∀ i, i < (gn T k).ns.length → (gm (gn T k).ns i).fl = ((tg (gm (gn T k).ns i) : Nat) : Int) ∧ tg (gm (gn T k).ns i) < T.length ∧ (gm (gn T k).ns i).nm.size ≤ 12) := fun i hi => by
    obtain ⟨n1, n2, n3, -⟩ := (hok k hk).1 i hi
    refine ⟨by unfold tg; omega, by unfold tg; omega, ?_⟩
    unfold isN at n1
    simp at n1
    omega
  have HFull : Hid (pb T (f + 1) k s = ((gn T k).ns.take (gn T k).ns.length).flatMap (p1 T f s)) := by show _ = _; rw [List.take_length]; rfl
  have HTk : Hid _ := fun i hi => take_p1 (T := T) (f := f) (k := k) (i := i) (s := s) hi
  clear hok hcell IH hz hl k0 k1 k3 hb
  generalize hTn : T.length = n at *
  have HT : Hid _ := hTn
  clear hTn
  generalize hLm : (gn T k).ns.length = m at *
  have HLm : Hid _ := hLm
  clear hLm
  have HV : Hid (RowS W0 v out) := hv.below q0
  clear hv
  unfold tv at *
  go_enter Try.func31, Try.ntmps31
  go_wp2
  clear i0 k2 hW0
  go_loopw [3, 21] (fun s3 s21 wr => ∃ (i : Nat), i ≤ m ∧ s21 = .int .i64 i ∧ Hid (RowS wr s3 (isr (((gn T k).ns.take i).flatMap (p1 T f s)) out)) ∧ Below W0.heap.size W0 wr) (fun _ s21 _ => m - (intOf s21).toNat)
  case atStart => exact ⟨0, Nat.zero_le _, rfl, HV, Below.refl _ _⟩
  case round =>
    obtain ⟨i, hi, rfl, HO, hbw⟩ := hrel
    by_cases hlt : i < m
    · obtain ⟨kb, ko, rfl, hc⟩ := HC.out _ hbw (by rw [HLm.out]; omega)
      obtain ⟨c0, c1⟩ := hc i (by rw [HLm.out]; exact hlt)
      obtain ⟨t1, t2, t3⟩ := HTn.out i hlt
      obtain ⟨fz, hdz⟩ := HFz.out i hlt
      have hpart := HPart.out i hlt
      rw [t1] at c1
      clear hc t1
      have hol : (isr (((gn T k).ns.take i).flatMap (p1 T f s)) out).length = out.length + (((gn T k).ns.take i).flatMap (p1 T f s)).length := isr_len _ _
      have cI := fun v o W h7 h6 h h8 => HIH.out fz (tg (gm (gn T k).ns i)) (jn s (gm (gn T k).ns i).nm) v o W t2 hdz (by rw [jn_size]; omega) h7 h6 h h8
      have hjs : (s ++ (⟨#[47]⟩ : ByteArray) ++ (gm (gn T k).ns i).nm) = jn s (gm (gn T k).ns i).nm := rfl
      have hjz : (jn s (gm (gn T k).ns i).nm).size ≤ 1000 := by rw [jn_size]; omega
      have HTK : Hid (isr (((gn T k).ns.take (i + 1)).flatMap (p1 T f s)) out = isr (pb T f (tg (gm (gn T k).ns i)) (jn s (gm (gn T k).ns i).nm)) (ins (jn s (gm (gn T k).ns i).nm) (isr (((gn T k).ns.take i).flatMap (p1 T f s)) out))) := by
        show _ = _
        rw [HTk.out i hlt, isr_app]
        rfl
      generalize ((gn T k).ns.take i).flatMap (p1 T f s) = P at *
      generalize hL2 : pb T f (tg (gm (gn T k).ns i)) (jn s (gm (gn T k).ns i).nm) = L2 at *
      generalize jn s (gm (gn T k).ns i).nm = q at *
      generalize (gm (gn T k).ns i).nm = nm at *
      generalize tg (gm (gn T k).ns i) = t at *
      clear hL2
      obtain ⟨o, ho⟩ : ∃ o, isr P out = o := ⟨_, rfl⟩
      rw [ho] at HO hol HTK
      clear ho
      obtain ⟨x, xc, rfl, hxc, hxs⟩ := HO.out
      obtain ⟨M, hM⟩ : ∃ M, o.length = M := ⟨_, rfl⟩
      have HM : Hid _ := hM
      have hM0 : M ≠ 0 := by omega
      have hM2 : L2.length + (M + 1) ≤ 2000 := by omega
      have HXS : Hid (Strs wr x o) := hxs
      unfold Strs at hxs
      rw [hM] at hxs hxc hol ⊢
      obtain ⟨ob, oo, rfl, hoc⟩ := hxs hM0
      obtain ⟨W1, hW1⟩ : ∃ W1, wr.alloc (.cells #[.string nm, .int .i64 (t : Int)] 49) = W1 := ⟨_, rfl⟩
      have b1 : Below wr.heap.size wr W1 := by subst hW1; exact below_alloc _ _
      have HN : Hid (W1.heap[wr.heap.size]? = some (.cells #[.string nm, .int .i64 (t : Int)] 49 (0, 0))) := by subst hW1; exact al1 _ _
      obtain ⟨n0, n1, -, -⟩ := box2_cells HN.out
      have hb1 := Below.comp hbw b1
      have HXS1 : Hid (Strs W1 (some ⟨ob, oo, none⟩) o) := Strs.on HXS.out b1
      have Hoc : Hid (∀ j, j < M → W1.cell? ⟨ob, oo + j, none⟩ = some (.string (gs o j))) := fun j hj => cell_on (hoc j hj) b1
      clear hoc hol hM
      go_wp2
      clear n0 n1 c0 c1
      go_loop [12] (fun x => ∃ j : Nat, j ≤ M ∧ x = .int .i64 j ∧ Hid (∀ j', j' < j → les (gs o j') q = true)) (fun x => M - (intOf x).toNat)
      case atStart => exact ⟨0, Nat.zero_le _, rfl, fun j hj => absurd hj (by omega)⟩
      case round =>
        obtain ⟨j, hj, rfl, HJ⟩ := hrel
        by_cases hjl : j < M
        · have x0 := Hoc.out j hjl
          have eL := les_is (gs o j) q
          obtain ⟨r, hr⟩ : ∃ r, les (gs o j) q = r := ⟨_, rfl⟩
          rw [hr] at eL
          have hjl' : decide ((j : Int) < (M : Int)) = true := by simp; omega
          cases r with
          | true =>
            have HJ2 : Hid (∀ j', j' < j + 1 → les (gs o j') q = true) := fun j' h => by
              by_cases e : j' = j
              · subst e; exact hr
              · exact HJ.out j' (by omega)
            clear hr
            generalize gs o j = oj at x0 eL
            go_wp2
            go_round
            case rel => exact ⟨j + 1, by omega, by go_num, HJ2⟩
            case measure => simp [intOf]; omega
          | false =>
            have HINS : Hid (ins q o = o.take j ++ q :: o.drop j) := ins_at (by rw [HM.out]; exact hj) HJ.out (fun _ => hr)
            clear hr
            generalize gs o j = oj at x0 eL
            have hsl : ∀ w, (Instr.slice 36 (.slice (some ⟨ob, oo, none⟩) M xc) none (some (.int .i64 (j : Int))) none).run Try.prog w = .ok (.slice (some ⟨ob, oo, none⟩) j xc) w := fun w => sliceS_to ob oo M xc j (by omega) w
            have hsf : ∀ w, (Instr.slice 36 (.slice (some ⟨ob, oo, none⟩) M xc) (some (.int .i64 (j : Int))) none none).run Try.prog w = .ok (.slice (subS (some ⟨ob, oo, none⟩) j xc) (M - j) (xc - j)) w := fun w => sliceS_from (some ⟨ob, oo, none⟩) M xc j hj w
            obtain ⟨ax, hax⟩ : ∃ ax, subS (some ⟨ob, oo, none⟩) j xc = ax := ⟨_, rfl⟩
            rw [hax] at hsf
            have e1 : (o.take j).length = j := by rw [List.length_take, HM.out]; omega
            have e2 : (o.drop j).length = M - j := by rw [List.length_drop, HM.out]
            have src1 := Strs.src (Strs.take HXS1.out (k := j) (by rw [HM.out]; exact hj))
            rw [e1] at src1
            have HSD : Hid (∀ W, Below W1.heap.size W1 W → (M - j) = 0 ∨ ∃ ad, ax = some ad ∧ ∀ j' u, (css (o.drop j))[j']? = some u → W.cell? (ad.add j') = some u) := fun W h => by
              have h9 := Strs.src (Strs.on (Strs.drop HXS1.out xc j (by rw [HM.out]; exact hxc)) h)
              rw [e2, hax] at h9
              exact h9
            have hcl1 : (css (o.take j)).length = j * 1 := by rw [css_len, e1, Nat.mul_one]
            have hcl3 : (css (o.drop j)).length = (M - j) * 1 := by rw [css_len, e2, Nat.mul_one]
            have own0 : W1.ownsRow W1.heap.size 9 1 (.slice none 0 0) 0 [] := OwnS.nil _ _
            have HINL : Hid ((ins q o).length = j + 1 + (M - j)) := by show _ = _; rw [ins_len, HM.out]; omega
            have HINC : Hid (css (ins q o) = css (o.take j) ++ [.string q] ++ css (o.drop j)) := by show _ = _; rw [HINS.out]; simp [css]
            obtain ⟨x3, -⟩ := box1_cells (box_on HX.out hb1)
            clear x3 e1 e2 hax HXS1 HXS
            generalize hMj : M - j = D at *
            have HMj : Hid _ := hMj
            have hD : j + 1 + D ≤ 2000 := by omega
            clear hMj
            go_wp2_with (first
              | (at_builtin; refine wpList_append_src rfl _ _ 36 rfl W1.heap.size 9 _ 1 16 Try.underlying36 info9 rfl (by decide) (.slice none 0 0) 0 [] rfl own0 (some ⟨ob, oo, none⟩) j xc (css (o.take j)) rfl hcl1 src1 (css_one _) (by omega) (by decide) (Nat.le_refl _) ?_; intro v2 w2 own2 gr2; have b2 : Below W1.heap.size W1 w2 := grown_on (Below.refl _ _) (Nat.le_refl _) own0 gr2; rw [Nat.zero_add, List.nil_append] at own2; obtain ⟨y2, c2, hy2⟩ := owns_form own2; subst hy2; have sr2 := src_new w2 (.string q) 9; have own3 := owns_below own2 (below_alloc w2 (.cells #[.string q] 9)); have b3 : Below W1.heap.size W1 (w2.alloc (.cells #[.string q] 9)) := Below.comp b2 (below_alloc _ _); clear gr2)
              | (at_builtin; refine wpList_append_src rfl _ _ 36 rfl W1.heap.size 9 _ 1 16 Try.underlying36 info9 rfl (by decide) (.slice y2 j c2) j (css (o.take j)) rfl own3 (some ⟨w2.heap.size, 0, none⟩) 1 1 [.string q] rfl rfl sr2 (by simp [Value.oneCell']) (by omega) (by decide) b3.size ?_; intro v4 w4 own4 gr4; have b4 : Below W1.heap.size W1 w4 := grown_on b3 b3.size own3 gr4; obtain ⟨y4, c4, hy4⟩ := owns_form own4; subst hy4; have sr4 := HSD.out w4 b4; clear gr4)
              | (at_builtin; refine wpList_append_src rfl _ _ 36 rfl W1.heap.size 9 _ 1 16 Try.underlying36 info9 rfl (by decide) (.slice y4 (j + 1) c4) (j + 1) (css (o.take j) ++ [.string q]) rfl own4 ax D (xc - j) (css (o.drop j)) rfl hcl3 sr4 (css_one _) (by omega) (by decide) b4.size ?_; intro v6 w6 own6 gr6; have b6 : Below W1.heap.size W1 w6 := grown_on b4 b4.size own4 gr6; have OW : Hid (OwnS w6 W1.heap.size v6 (ins q o)) := (by show OwnS _ _ _ _; unfold OwnS; rw [HINL.out, HINC.out]; exact own6); obtain ⟨y6, c6, hy6⟩ := owns_form own6; subst hy6; obtain ⟨x6, -⟩ := box1_cells (box_on HX.out (Below.comp hb1 b6)); obtain ⟨u0, u1, -, -⟩ := box2_cells (box_on HN.out b6); clear gr6))
            have hb6 := Below.comp hb1 b6
            have cI6 := cI (.slice y6 (j + 1 + D) c6) (ins q o) w6 (by rw [HINL.out]; omega) (by rw [HINL.out]; have := HMj.out; omega) (HB0.out _ hb6) (OwnS.strs OW.out)
            refine cI6.mono ?_
            rintro e w7 ⟨b7, v7, rfl, R7⟩
            have HR7 : Hid _ := R7
            obtain ⟨x7, c7, hv7, -, -⟩ := R7
            subst hv7
            clear x6 u0 u1 cI6 own0 own2 own3 own4 own6
            go_wp2_with fail
            go_roundw
            case rel => exact ⟨i + 1, by omega, by go_num, by rw [HTK.out]; exact HR7.out, Below.comp hb6 b7⟩
            case measure => simp [intOf]; omega
        · have hjl' : decide ((j : Int) < (M : Int)) = false := by simp; omega
          have HINS : Hid (ins q o = o.take j ++ q :: o.drop j) := ins_at (by rw [HM.out]; exact hj) HJ.out (fun h => absurd h (by rw [HM.out]; omega))
          have hsl : ∀ w, (Instr.slice 36 (.slice (some ⟨ob, oo, none⟩) M xc) none (some (.int .i64 (j : Int))) none).run Try.prog w = .ok (.slice (some ⟨ob, oo, none⟩) j xc) w := fun w => sliceS_to ob oo M xc j (by omega) w
          have hsf : ∀ w, (Instr.slice 36 (.slice (some ⟨ob, oo, none⟩) M xc) (some (.int .i64 (j : Int))) none none).run Try.prog w = .ok (.slice (subS (some ⟨ob, oo, none⟩) j xc) (M - j) (xc - j)) w := fun w => sliceS_from (some ⟨ob, oo, none⟩) M xc j hj w
          obtain ⟨ax, hax⟩ : ∃ ax, subS (some ⟨ob, oo, none⟩) j xc = ax := ⟨_, rfl⟩
          rw [hax] at hsf
          have e1 : (o.take j).length = j := by rw [List.length_take, HM.out]; omega
          have e2 : (o.drop j).length = M - j := by rw [List.length_drop, HM.out]
          have src1 := Strs.src (Strs.take HXS1.out (k := j) (by rw [HM.out]; exact hj))
          rw [e1] at src1
          have HSD : Hid (∀ W, Below W1.heap.size W1 W → (M - j) = 0 ∨ ∃ ad, ax = some ad ∧ ∀ j' u, (css (o.drop j))[j']? = some u → W.cell? (ad.add j') = some u) := fun W h => by
            have h9 := Strs.src (Strs.on (Strs.drop HXS1.out xc j (by rw [HM.out]; exact hxc)) h)
            rw [e2, hax] at h9
            exact h9
          have hcl1 : (css (o.take j)).length = j * 1 := by rw [css_len, e1, Nat.mul_one]
          have hcl3 : (css (o.drop j)).length = (M - j) * 1 := by rw [css_len, e2, Nat.mul_one]
          have own0 : W1.ownsRow W1.heap.size 9 1 (.slice none 0 0) 0 [] := OwnS.nil _ _
          have HINL : Hid ((ins q o).length = j + 1 + (M - j)) := by show _ = _; rw [ins_len, HM.out]; omega
          have HINC : Hid (css (ins q o) = css (o.take j) ++ [.string q] ++ css (o.drop j)) := by show _ = _; rw [HINS.out]; simp [css]
          obtain ⟨x3, -⟩ := box1_cells (box_on HX.out hb1)
          clear x3 e1 e2 hax HXS1 HXS
          generalize hMj : M - j = D at *
          have HMj : Hid _ := hMj
          have hD : j + 1 + D ≤ 2000 := by omega
          clear hMj
          go_wp2_with (first
            | (at_builtin; refine wpList_append_src rfl _ _ 36 rfl W1.heap.size 9 _ 1 16 Try.underlying36 info9 rfl (by decide) (.slice none 0 0) 0 [] rfl own0 (some ⟨ob, oo, none⟩) j xc (css (o.take j)) rfl hcl1 src1 (css_one _) (by omega) (by decide) (Nat.le_refl _) ?_; intro v2 w2 own2 gr2; have b2 : Below W1.heap.size W1 w2 := grown_on (Below.refl _ _) (Nat.le_refl _) own0 gr2; rw [Nat.zero_add, List.nil_append] at own2; obtain ⟨y2, c2, hy2⟩ := owns_form own2; subst hy2; have sr2 := src_new w2 (.string q) 9; have own3 := owns_below own2 (below_alloc w2 (.cells #[.string q] 9)); have b3 : Below W1.heap.size W1 (w2.alloc (.cells #[.string q] 9)) := Below.comp b2 (below_alloc _ _); clear gr2)
            | (at_builtin; refine wpList_append_src rfl _ _ 36 rfl W1.heap.size 9 _ 1 16 Try.underlying36 info9 rfl (by decide) (.slice y2 j c2) j (css (o.take j)) rfl own3 (some ⟨w2.heap.size, 0, none⟩) 1 1 [.string q] rfl rfl sr2 (by simp [Value.oneCell']) (by omega) (by decide) b3.size ?_; intro v4 w4 own4 gr4; have b4 : Below W1.heap.size W1 w4 := grown_on b3 b3.size own3 gr4; obtain ⟨y4, c4, hy4⟩ := owns_form own4; subst hy4; have sr4 := HSD.out w4 b4; clear gr4)
            | (at_builtin; refine wpList_append_src rfl _ _ 36 rfl W1.heap.size 9 _ 1 16 Try.underlying36 info9 rfl (by decide) (.slice y4 (j + 1) c4) (j + 1) (css (o.take j) ++ [.string q]) rfl own4 ax D (xc - j) (css (o.drop j)) rfl hcl3 sr4 (css_one _) (by omega) (by decide) b4.size ?_; intro v6 w6 own6 gr6; have b6 : Below W1.heap.size W1 w6 := grown_on b4 b4.size own4 gr6; have OW : Hid (OwnS w6 W1.heap.size v6 (ins q o)) := (by show OwnS _ _ _ _; unfold OwnS; rw [HINL.out, HINC.out]; exact own6); obtain ⟨y6, c6, hy6⟩ := owns_form own6; subst hy6; obtain ⟨x6, -⟩ := box1_cells (box_on HX.out (Below.comp hb1 b6)); obtain ⟨u0, u1, -, -⟩ := box2_cells (box_on HN.out b6); clear gr6))
          have hb6 := Below.comp hb1 b6
          have cI6 := cI (.slice y6 (j + 1 + D) c6) (ins q o) w6 (by rw [HINL.out]; omega) (by rw [HINL.out]; have := HMj.out; omega) (HB0.out _ hb6) (OwnS.strs OW.out)
          refine cI6.mono ?_
          rintro e w7 ⟨b7, v7, rfl, R7⟩
          have HR7 : Hid _ := R7
          obtain ⟨x7, c7, hv7, -, -⟩ := R7
          subst hv7
          clear x6 u0 u1 cI6 own0 own2 own3 own4 own6
          go_wp2_with fail
          go_roundw
          case rel => exact ⟨i + 1, by omega, by go_num, by rw [HTK.out]; exact HR7.out, Below.comp hb6 b7⟩
          case measure => simp [intOf]; omega
    · have him : i = m := by omega
      subst him
      obtain ⟨x, xc, rfl, hxc, hxs⟩ := HO.out
      have HO2 : Hid _ := HO.out
      generalize hQ : (isr (((gn T k).ns.take i).flatMap (p1 T f s)) out).length = Q at *
      go_wp2
      go_ret
      refine ⟨Below.comp q0 hbw, .slice x Q xc, rfl, ?_⟩
      rw [HFull.out, ← hQ]
      exact ⟨x, xc, rfl, by rw [hQ]; exact hxc, hxs⟩
theorem paths_all {T : List Ino} (hok : ∀ k, k < T.length → okN T.length (gn T k)) (w0 : World) (a : Option Addr) (cap : Nat) (hI : Inos w0 a T) (h1 : 1 ≤ T.length) (hn : T.length ≤ 60) : ∀ (f k : Nat) (s : ByteArray) (v : Value) (out : List ByteArray) (w : World), k < T.length → dz T f k → s.size + 13 * (f + 1) ≤ 1000 → 1 ≤ out.length → (pb T (f + 1) k s).length + out.length ≤ 2000 → Below w0.heap.size w0 w → RowS w v out →
      Calls Try.prog 31 #[tv a T.length cap, .int .i64 (k : Int), .string s, v] w fun e w' => Below w.heap.size w w' ∧ ∃ v', e = .returned v' ∧ RowS w' v' (isr (pb T (f + 1) k s) out) := by
  intro f
  induction f with
  | zero => intro k s v out w hk hz hs ho hl hb hv; exact paths_step hok w0 a cap hI h1 hn 0 (fun h => absurd rfl h) k s v out w hk hz hs ho hl hb hv
  | succ f ih => intro k s v out w hk hz hs ho hl hb hv; exact paths_step hok w0 a cap hI h1 hn (f + 1) (fun _ k s v out w a1 a2 a3 a4 a5 a6 a7 => ih k s v out w a1 a2 a3 a4 a5 a6 a7) k s v out w hk hz hs ho hl hb hv
end Go.Proofs.Ythioomihpfmlmaa
