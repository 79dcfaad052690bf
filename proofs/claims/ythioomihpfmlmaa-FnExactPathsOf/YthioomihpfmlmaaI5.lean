import Derived.Test.YthioomihpfmlmaaT1
import Derived.Test.YthioomihpfmlmaaM2
import Derived.Test.YthioomihpfmlmaaQ6
import Derived.Test.YthioomihpfmlmaaS1
/- The program: all paths below an inode. -/
namespace Go.Proofs.Ythioomihpfmlmaa
open Go.ChangeShapes Go.WideShapes Go.ChangeAt Go.RowKit
set_option linter.unusedVariables false
open Hd

attribute [local go_sem] Oper.semAt_some

theorem Strs.src {w : World} {a : Option Addr} {l : List ByteArray} (h : Strs w a l) : l.length = 0 ∨ ∃ ad, a = some ad ∧ ∀ j u, (css l)[j]? = some u → w.cell? (ad.add j) = some u := by
  by_cases h0 : l.length = 0
  · exact .inl h0
  · obtain ⟨b, off, rfl, hc⟩ := h h0
    refine .inr ⟨_, rfl, fun j u hj => ?_⟩
    have hlt : j < l.length := by have := (List.getElem?_eq_some_iff.1 hj).1; rwa [css_len] at this
    rw [addN, hc j hlt, ← hj, css_at hlt]
theorem jn_size (s x : ByteArray) : (jn s x).size = s.size + 1 + x.size := by
  unfold jn
  rw [ByteArray.size_append, ByteArray.size_append]
  rfl
theorem owns_lt {w : World} {B : Nat} {e : TypeId} {size : Nat} {v : Value} {n : Nat} {xs : List Value} (h : w.ownsRow B e size v n xs) : ∀ k, v.ownBlock = some k → k < w.heap.size := by
  intro k hk
  rcases h.2 with ⟨rfl, _⟩ | ⟨g, cap, cur, rfl, hb, hg, _⟩
  · simp [Value.ownBlock] at hk
  · simp [Value.ownBlock] at hk
    subst hk
    exact box_lt hg
theorem box_grown {w w' : World} {row : Option Nat} {b : Nat} {o : Obj} (h : w.heap[b]? = some o) (hg : w.grownBy w' row) (hne : ∀ k, row = some k → k ≠ b) : w'.heap[b]? = some o := by
  rw [hg.block b (box_lt h) (fun e => hne b e.symm rfl)]
  exact h
/-- Where the names of an inode lie stays. -/
theorem Inos.names {w0 w w' : World} {b off : Nat} {T : List Ino} {k : Nat} {ka : Option Addr} {m kc : Nat} (hI : InAt w0 b (off + k * 3) (gn T k)) (h1 : Below w0.heap.size w0 w) (h2 : Below w0.heap.size w0 w') (hc : w.cell? ⟨b, off + k * 3 + 2, none⟩ = some (.slice ka m kc)) : Nms w' ka (gn T k).ns := by
  obtain ⟨a0, c0, -, -, l2, l3, -⟩ := hI
  have e1 := h1.cell (p := ⟨b, off + k * 3 + 2, none⟩) (lt_of_cell l2)
  rw [l2, hc] at e1
  simp only [Option.some.injEq, Value.slice.injEq] at e1
  rw [e1.1]
  exact l3.below h2
set_option maxHeartbeats 4000000 in
set_option maxRecDepth 20000 in
theorem below_step {T : List Ino} (hok : ∀ k, k < T.length → okN T.length (gn T k)) (w0 : World) (a : Option Addr) (cap : Nat) (hI : Inos w0 a T) (h1 : 1 ≤ T.length) (hn : T.length ≤ 60) (f : Nat)
    (IH : f ≠ 0 → ∀ (k : Nat) (s : ByteArray) (w : World), k < T.length → dz T (f - 1) k → s.size + 13 * f ≤ 1000 → (pb T f k s).length ≤ 2000 → Below w0.heap.size w0 w →
      Calls Try.prog 32 #[tv a T.length cap, .int .i64 (k : Int), .string s] w fun e w' => Below w.heap.size w w' ∧ ∃ v, e = .returned v ∧ OwnS w' w.heap.size v (pb T f k s))
    (k : Nat) (s : ByteArray) (w : World) (hk : k < T.length) (hz : dz T f k) (hs : s.size + 13 * (f + 1) ≤ 1000) (hl : (pb T (f + 1) k s).length ≤ 2000) (hb : Below w0.heap.size w0 w) :
    Calls Try.prog 32 #[tv a T.length cap, .int .i64 (k : Int), .string s] w fun e w' => Below w.heap.size w w' ∧ ∃ v, e = .returned v ∧ OwnS w' w.heap.size v (pb T (f + 1) k s) := by
  obtain ⟨b, off, rfl, hcell⟩ := hI (by omega)
  obtain ⟨W0, hW0⟩ : ∃ W0, w.alloc (.cells #[.slice (some ⟨b, off, none⟩) T.length cap] 24) = W0 := ⟨_, rfl⟩
  have q0 : Below w.heap.size w W0 := by subst hW0; exact below_alloc _ _
  have hb0 : Below w0.heap.size w0 W0 := hb.trans (q0.mono hb.size)
  have HX : Hid (W0.heap[w.heap.size]? = some (.cells #[.slice (some ⟨b, off, none⟩) T.length cap] 24 (0, 0))) := by subst hW0; exact al1 _ _
  obtain ⟨i0, -⟩ := box1_cells HX.out
  obtain ⟨ka, kc, k0, k1, k2, k3, -⟩ := (hcell k hk).below hb0
  have hkn : (k : Int) < (T.length : Int) := by omega
  have HC : Hid (∀ W, Below W0.heap.size W0 W → Nms W ka (gn T k).ns) := fun W h => Inos.names (hcell k hk) hb0 (hb0.trans (h.mono hb0.size)) k2
  have HB0 : Hid (∀ W, Below W0.heap.size W0 W → Below w0.heap.size w0 W) := fun W h => hb0.trans (h.mono hb0.size)
  have HOk : Hid _ := hok k hk
  have hml := (hok k hk).2.2
  have HIH : Hid _ := IH
  have HPart : Hid (∀ i, i < (gn T k).ns.length → (((gn T k).ns.take i).flatMap (p1 T f s)).length + 1 + (pb T f (tg (gm (gn T k).ns i)) (jn s (gm (gn T k).ns i).nm)).length ≤ 2000) := fun i hi => by have := part_le (T := T) (f := f) (s := s) hi; omega
  have HFz : Hid (∀ i, i < (gn T k).ns.length → f ≠ 0 ∧ dz T (f - 1) (tg (gm (gn T k).ns i))) := fun i hi => by
    cases f with
    | zero =>
      have h9 : (gn T k).ns = [] := hz
      rw [h9] at hi
      simp at hi
    | succ f => exact ⟨by omega, hz _ (by rw [gm_eq hi]; exact List.getElem_mem _)⟩
  have HTn : Hid (∀ i, i < (gn T k).ns.length → (gm (gn T k).ns i).fl = ((tg (gm (gn T k).ns i) : Nat) : Int) ∧ tg (gm (gn T k).ns i) < T.length ∧ (gm (gn T k).ns i).nm.size ≤ 12) := fun i hi => by
    obtain ⟨n1, n2, n3, -⟩ := (hok k hk).1 i hi
    refine ⟨by unfold tg; omega, by unfold tg; omega, ?_⟩
    unfold isN at n1
    simp at n1
    omega
  have HFull : Hid (pb T (f + 1) k s = ((gn T k).ns.take (gn T k).ns.length).flatMap (p1 T f s)) := by show _ = _; rw [List.take_length]; rfl
  have HTk : Hid _ := fun i hi => take_p1 (T := T) (f := f) (k := k) (i := i) (s := s) hi
  clear hok hcell IH hz hl k0 k1 k3 hb
  generalize hTn : T.length = n at *
  have HT : Hid _ := hTn
  clear hTn
  generalize hLm : (gn T k).ns.length = m at *
  have HLm : Hid _ := hLm
  clear hLm
  unfold tv at *
  go_enter Try.func32, Try.ntmps32
  go_wp2
  clear i0 k2 hW0
  go_loopw [7, 18] (fun s7 s18 wr => ∃ i : Nat, i ≤ m ∧ s18 = .int .i64 i ∧ Hid (OwnS wr W0.heap.size s7 (((gn T k).ns.take i).flatMap (p1 T f s))) ∧ Below W0.heap.size W0 wr) (fun _ s18 _ => m - (intOf s18).toNat)
  case atStart => exact ⟨0, Nat.zero_le _, rfl, OwnS.nil _ _, Below.refl _ _⟩
  case round =>
    obtain ⟨i, hi, rfl, HO, hbw⟩ := hrel
    by_cases hlt : i < m
    · obtain ⟨kb, ko, rfl, hc⟩ := HC.out _ hbw (by rw [HLm.out]; omega)
      obtain ⟨c0, c1⟩ := hc i (by rw [HLm.out]; exact hlt)
      obtain ⟨t1, t2, t3⟩ := HTn.out i hlt
      obtain ⟨fz, hdz⟩ := HFz.out i hlt
      have hpart := HPart.out i hlt
      have htk := HTk.out i hlt
      rw [t1] at c1
      obtain ⟨y, yc, hy⟩ := owns_form HO.out
      subst hy
      clear hc t1
      have cI := fun W h => HIH.out fz (tg (gm (gn T k).ns i)) (jn s (gm (gn T k).ns i).nm) W t2 hdz (by rw [jn_size]; omega) (by omega) h
      have hjs : (s ++ (⟨#[47]⟩ : ByteArray) ++ (gm (gn T k).ns i).nm) = jn s (gm (gn T k).ns i).nm := rfl
      have hjz : (jn s (gm (gn T k).ns i).nm).size ≤ 1000 := by rw [jn_size]; omega
      have HTK : Hid (((gn T k).ns.take (i + 1)).flatMap (p1 T f s) = ((gn T k).ns.take i).flatMap (p1 T f s) ++ (jn s (gm (gn T k).ns i).nm :: pb T f (tg (gm (gn T k).ns i)) (jn s (gm (gn T k).ns i).nm))) := htk
      generalize hP : ((gn T k).ns.take i).flatMap (p1 T f s) = P at *
      generalize hL2 : pb T f (tg (gm (gn T k).ns i)) (jn s (gm (gn T k).ns i).nm) = L2 at *
      generalize jn s (gm (gn T k).ns i).nm = q at *
      generalize (gm (gn T k).ns i).nm = nm at *
      generalize tg (gm (gn T k).ns i) = t at *
      clear hP hL2 htk
      obtain ⟨M, hM⟩ : ∃ M, P.length = M := ⟨_, rfl⟩
      have HM : Hid _ := hM
      have hOlt := owns_lt HO.out
      obtain ⟨W1, hW1⟩ : ∃ W1, wr.alloc (.cells #[.string nm, .int .i64 (t : Int)] 49) = W1 := ⟨_, rfl⟩
      have b1 : Below wr.heap.size wr W1 := by subst hW1; exact below_alloc _ _
      have HN : Hid (W1.heap[wr.heap.size]? = some (.cells #[.string nm, .int .i64 (t : Int)] 49 (0, 0))) := by subst hW1; exact al1 _ _
      obtain ⟨n0, n1, -, -⟩ := box2_cells HN.out
      obtain ⟨W2, hW2⟩ : ∃ W2, W1.alloc (.cells #[.string q] 9) = W2 := ⟨_, rfl⟩
      have b2 : Below W1.heap.size W1 W2 := by subst hW2; exact below_alloc _ _
      have b12 := Below.comp b1 b2
      have own1 : W2.ownsRow W0.heap.size 9 1 (.slice y M yc) M (css P) := by
        have h6 := owns_below HO.out b12
        rwa [hM] at h6
      have sr : (1 : Nat) = 0 ∨ ∃ ad, some (⟨W1.heap.size, 0, none⟩ : Addr) = some ad ∧ ∀ j x, [Value.string q][j]? = some x → W2.cell? (ad.add j) = some x := by subst hW2; exact src_new W1 (.string q) 9
      have z1 : W0.heap.size ≤ W2.heap.size := (Below.comp hbw b12).size
      rw [hM] at HO hOlt ⊢
      have HN2 : Hid (W2.heap[wr.heap.size]? = _) := box_on HN.out b2
      have hM2 : M + 1 + L2.length ≤ 2000 := by omega
      clear hM
      go_wp2_with (at_builtin; refine wpList_append_src rfl _ _ 36 rfl W0.heap.size 9 _ 1 16 Try.underlying36 info9 rfl (by decide) (.slice y M yc) M (css P) rfl own1 (some ⟨W1.heap.size, 0, none⟩) 1 1 [.string q] rfl rfl sr (by simp [Value.oneCell']) (by omega) (by decide) z1 ?_; intro v3 w3 own3 gr3; have b3 : Below W0.heap.size W0 w3 := grown_on (Below.comp hbw b12) z1 own1 gr3; have HN3 : Hid (w3.heap[wr.heap.size]? = _) := box_grown HN2.out gr3 (fun k hk => Nat.ne_of_lt (hOlt k hk)); have OW3 : Hid (w3.ownsRow W0.heap.size 9 1 v3 (M + 1) (css P ++ [.string q])) := own3; clear own3 gr3; obtain ⟨y3, c3, hy3⟩ := owns_form OW3.out; subst hy3; obtain ⟨m0, m1, -, -⟩ := box2_cells HN3.out; obtain ⟨x3, -⟩ := box1_cells (box_on HX.out b3); have cI3 := cI w3 (HB0.out _ b3))
      refine cI3.mono ?_
      rintro e w4 ⟨b4, v4, rfl, own4⟩
      have b04 : Below W0.heap.size W0 w4 := Below.comp b3 b4
      obtain ⟨a4, c4, rfl, hc4, st4⟩ := OwnS.strs own4
      have sr4 := Strs.src st4
      have hcl : (css L2).length = L2.length * 1 := by rw [css_len, Nat.mul_one]
      have own5 : w4.ownsRow W0.heap.size 9 1 (.slice y3 (M + 1) c3) (M + 1) (css P ++ [.string q]) := owns_below OW3.out b4
      have z4 : W0.heap.size ≤ w4.heap.size := b04.size
      have HTK2 : Hid (((gn T k).ns.take (i + 1)).flatMap (p1 T f s) = P ++ q :: L2) := HTK.out
      clear own4 st4 cI3 cI m0 m1 x3 n0 n1 c0 c1
      generalize hN2 : L2.length = N2 at *
      have HN2' : Hid _ := hN2
      clear hN2
      go_wp2_with (at_builtin; refine wpList_append_src rfl _ _ 36 rfl W0.heap.size 9 _ 1 16 Try.underlying36 info9 rfl (by decide) (.slice y3 (M + 1) c3) (M + 1) (css P ++ [.string q]) rfl own5 a4 N2 c4 (css L2) rfl hcl sr4 (css_one _) (by omega) (by decide) z4 ?_; intro v6 w6 own6 gr6; have b6 : Below W0.heap.size W0 w6 := grown_on b04 z4 own5 gr6; have OW6 : Hid (w6.ownsRow W0.heap.size 9 1 v6 (M + 1 + N2) (css P ++ [.string q] ++ css L2)) := own6; clear own6 gr6)
      go_roundw
      case rel =>
        refine ⟨i + 1, by omega, by go_num, ?_, b6⟩
        rw [HTK2.out]
        show OwnS _ _ _ _
        have e1 : (P ++ q :: L2).length = M + 1 + N2 := by rw [List.length_append, List.length_cons, HM.out, HN2'.out]; omega
        have e2 : css (P ++ q :: L2) = css P ++ [.string q] ++ css L2 := by simp [css]
        unfold OwnS
        rw [e1, e2]
        exact OW6.out
      case measure => simp [intOf]; omega
    · have him : i = m := by omega
      subst him
      obtain ⟨y, yc, hy⟩ := owns_form HO.out
      subst hy
      have HO2 : Hid _ := HO.out
      generalize hQ : (((gn T k).ns.take i).flatMap (p1 T f s)).length = Q at *
      have HZ : Hid (w.heap.size ≤ W0.heap.size) := q0.size
      go_wp2
      go_ret
      refine ⟨Below.comp q0 hbw, .slice y Q yc, rfl, ?_⟩
      rw [HFull.out]
      have h9 := owns_mono HO2.out HZ.out
      unfold OwnS
      rw [hQ]
      exact h9
theorem below_all {T : List Ino} (hok : ∀ k, k < T.length → okN T.length (gn T k)) (w0 : World) (a : Option Addr) (cap : Nat) (hI : Inos w0 a T) (h1 : 1 ≤ T.length) (hn : T.length ≤ 60) : ∀ (f k : Nat) (s : ByteArray) (w : World), k < T.length → dz T f k → s.size + 13 * (f + 1) ≤ 1000 → (pb T (f + 1) k s).length ≤ 2000 → Below w0.heap.size w0 w →
      Calls Try.prog 32 #[tv a T.length cap, .int .i64 (k : Int), .string s] w fun e w' => Below w.heap.size w w' ∧ ∃ v, e = .returned v ∧ OwnS w' w.heap.size v (pb T (f + 1) k s) := by
  intro f
  induction f with
  | zero => intro k s w hk hz hs hl hb; exact below_step hok w0 a cap hI h1 hn 0 (fun h => absurd rfl h) k s w hk hz hs hl hb
  | succ f ih => intro k s w hk hz hs hl hb; exact below_step hok w0 a cap hI h1 hn (f + 1) (fun _ k s w a1 a2 a3 a4 a5 => ih k s w a1 a2 a3 a4 a5) k s w hk hz hs hl hb
end Go.Proofs.Ythioomihpfmlmaa
