import Derived.Test.YtdbmdblghlfjfaaA1
import Derived.Test.YtdbmdblghlfjfaaX1
import Derived.Lib.AppendZeros
import Derived.ArgAppend
/- Rows of pieces that grow; the library joins them. -/
namespace Go.Proofs.Ytdbmdblghlfjfaa
open Go.ChangeShapes Go.WideShapes Go.ChangeAt Go.RowKit
set_option linter.unusedVariables false
open Mp

attribute [local go_sem] Oper.semAt_some

def encP (p : Pc) : List Value := [.int .i64 p.f, .int .i64 p.n, .int .i64 p.a, .bool p.z]
theorem encP_one (p : Pc) : ∀ v ∈ encP p, v.oneCell' = true := fun v hv => by
  simp [encP] at hv
  rcases hv with rfl | rfl | rfl | rfl <;> rfl
/-- The cells of pieces, one behind the other. -/
def cpp (l : List Pc) : List Value := l.flatMap encP
theorem cpp_cons (p : Pc) (l : List Pc) : cpp (p :: l) = .int .i64 p.f :: .int .i64 p.n :: .int .i64 p.a :: .bool p.z :: cpp l := rfl
theorem cpp_app (l m : List Pc) : cpp (l ++ m) = cpp l ++ cpp m := by simp [cpp]
theorem cpp_len : ∀ (l : List Pc), (cpp l).length = l.length * 4
  | [] => rfl
  | x :: l => by rw [cpp_cons, List.length_cons, List.length_cons, List.length_cons, List.length_cons, cpp_len l, List.length_cons]; omega
theorem cpp_one (l : List Pc) : ∀ u ∈ cpp l, u.oneCell' = true := by
  intro u hu
  simp only [cpp, List.mem_flatMap] at hu
  obtain ⟨x, _, hx⟩ := hu
  exact encP_one x u hx
theorem cpp_at : ∀ (l : List Pc) (i : Nat), i < l.length → (cpp l)[i * 4]? = some (.int .i64 (gp l i).f) ∧ (cpp l)[i * 4 + 1]? = some (.int .i64 (gp l i).n) ∧ (cpp l)[i * 4 + 2]? = some (.int .i64 (gp l i).a) ∧ (cpp l)[i * 4 + 3]? = some (.bool (gp l i).z)
  | [], i, h => absurd h (by simp)
  | x :: l, 0, _ => by rw [cpp_cons]; simp [gp]
  | x :: l, i + 1, h => by
    have h' := cpp_at l i (by simpa using h)
    have e : gp (x :: l) (i + 1) = gp l i := by simp [gp]
    rw [cpp_cons, e]
    refine ⟨?_, ?_, ?_, ?_⟩
    · rw [show (i + 1) * 4 = i * 4 + 1 + 1 + 1 + 1 by omega]; simpa using h'.1
    · rw [show (i + 1) * 4 + 1 = i * 4 + 1 + 1 + 1 + 1 + 1 by omega]; simpa using h'.2.1
    · rw [show (i + 1) * 4 + 2 = i * 4 + 2 + 1 + 1 + 1 + 1 by omega]; simpa using h'.2.2.1
    · rw [show (i + 1) * 4 + 3 = i * 4 + 3 + 1 + 1 + 1 + 1 by omega]; simpa using h'.2.2.2
/-- A row of pieces that may be appended to. -/
abbrev OwnP (w : World) (B : Nat) (v : Value) (l : List Pc) : Prop := w.ownsRow B 40 4 v l.length (cpp l)
theorem OwnP.nil (w : World) (B : Nat) : OwnP w B (.slice none 0 0) [] := ⟨rfl, .inl ⟨rfl, rfl⟩⟩
theorem OwnP.own {w : World} {B : Nat} {a : Option Addr} {n c : Nat} {l : List Pc} (h : OwnP w B (.slice a n c) l) : MineP w B w.heap.size a l.length (gp l) ∧ n = l.length ∧ l.length ≤ c := by
  rcases h.2 with ⟨h1, h2⟩ | ⟨g, cap, cur, h1, hb, hg, hc, hm, hcs, ht⟩
  · simp only [Value.slice.injEq] at h1
    obtain ⟨rfl, rfl, rfl⟩ := h1
    exact ⟨.inl h2, h2.symm, by omega⟩
  · simp only [Value.slice.injEq] at h1
    obtain ⟨rfl, rfl, rfl⟩ := h1
    refine ⟨.inr ⟨g, cur, hb, box_lt hg, rfl, hg, fun i hi => ?_⟩, rfl, hc⟩
    have k := cpp_at l i hi
    rw [← ht, List.getElem?_take, if_pos (by omega), List.getElem?_take, if_pos (by omega), List.getElem?_take, if_pos (by omega), List.getElem?_take, if_pos (by omega)] at k
    simpa using k
theorem OwnP.form {w : World} {B : Nat} {v : Value} {l : List Pc} (h : OwnP w B v l) : ∃ x c, v = .slice x l.length c ∧ l.length ≤ c ∧ MineP w B w.heap.size x l.length (gp l) := by
  obtain ⟨x, c, rfl⟩ := owns_form h
  exact ⟨x, c, rfl, (OwnP.own h).2.2, (OwnP.own h).1⟩
theorem RowP.cells {w : World} {b off : Nat} {l : List Pc} (hc : ∀ i, i < l.length → w.cell? ⟨b, off + i * 4, none⟩ = some (.int .i64 (gp l i).f) ∧ w.cell? ⟨b, off + i * 4 + 1, none⟩ = some (.int .i64 (gp l i).n) ∧ w.cell? ⟨b, off + i * 4 + 2, none⟩ = some (.int .i64 (gp l i).a) ∧ w.cell? ⟨b, off + i * 4 + 3, none⟩ = some (.bool (gp l i).z)) :
    ∀ j u, (cpp l)[j]? = some u → w.cell? ((⟨b, off, none⟩ : Addr).add j) = some u := by
  intro j u hj
  have hlt : j < l.length * 4 := by have := (List.getElem?_eq_some_iff.1 hj).1; rwa [cpp_len] at this
  have e : (⟨b, off, none⟩ : Addr).add j = ⟨b, off + j, none⟩ := by unfold Addr.add; split <;> simp_all
  rw [e]
  obtain ⟨h0, h1, h2, h3⟩ := cpp_at l (j / 4) (by omega)
  obtain ⟨g0, g1, g2, g3⟩ := hc (j / 4) (by omega)
  have hm : j % 4 = 0 ∨ j % 4 = 1 ∨ j % 4 = 2 ∨ j % 4 = 3 := by omega
  rcases hm with q | q | q | q
  · have ej : j / 4 * 4 = j := by omega
    rw [ej] at h0 g0
    rw [g0, ← hj, h0]
  · have ej : j / 4 * 4 + 1 = j := by omega
    rw [Nat.add_assoc, ej] at g1
    rw [ej] at h1
    rw [g1, ← hj, h1]
  · have ej : j / 4 * 4 + 2 = j := by omega
    rw [Nat.add_assoc, ej] at g2
    rw [ej] at h2
    rw [g2, ← hj, h2]
  · have ej : j / 4 * 4 + 3 = j := by omega
    rw [Nat.add_assoc, ej] at g3
    rw [ej] at h3
    rw [g3, ← hj, h3]
theorem RowP.src {w : World} {a : Option Addr} {l : List Pc} (h : Pcs w a l) : l.length = 0 ∨ ∃ ad, a = some ad ∧ ∀ j u, (cpp l)[j]? = some u → w.cell? (ad.add j) = some u := by
  by_cases h0 : l.length = 0
  · exact .inl h0
  · obtain ⟨b, off, rfl, hc⟩ := h h0
    exact .inr ⟨_, rfl, RowP.cells hc⟩
theorem srcP_cells {w : World} {b : Nat} {p : Pc} {e : TypeId} (h : w.heap[b]? = some (.cells #[.int .i64 p.f, .int .i64 p.n, .int .i64 p.a, .bool p.z] e (0, 0))) : ∀ j u, (cpp [p])[j]? = some u → w.cell? ((⟨b, 0, none⟩ : Addr).add j) = some u := by
  obtain ⟨h0, h1, h2, h3⟩ := box4_cells h
  refine RowP.cells (l := [p]) fun i hi => ?_
  obtain rfl : i = 0 := by simpa using hi
  exact ⟨h0, h1, h2, h3⟩
theorem srcP_one (w : World) (p : Pc) (t : TypeId) : (1 : Nat) = 0 ∨ ∃ ad, some (⟨w.heap.size, 0, none⟩ : Addr) = some ad ∧ ∀ j u, (cpp [p])[j]? = some u → (w.alloc (.cells #[.int .i64 p.f, .int .i64 p.n, .int .i64 p.a, .bool p.z] t)).cell? (ad.add j) = some u :=
  .inr ⟨_, rfl, srcP_cells (al1 w _)⟩
set_option maxRecDepth 10000 in
theorem Grow_any (n : Nat) (w : World) (hn : n ≤ 100000) :
    Calls Try.prog 86 #[.slice none 0 0, .int .i64 n] w fun e w' => Below w.heap.size w w' ∧ ∃ x c, e = .returned (.slice x 0 c) ∧ OwnP w' w.heap.size (.slice x 0 c) [] := by
  by_cases h0 : n = 0
  · subst h0
    go_enter Try.func86, Try.ntmps86
    go_wp2
    go_ret
    exact ⟨Below.refl _ _, _, _, rfl, OwnP.nil _ _⟩
  · obtain ⟨i, hi, hz0, hz1, hz2⟩ := info_parts info40
    have happ := Lib.run_append_nil_zeros (P := Try.prog) w 27 3 27 40 i (.agg #[.int .i64 0, .int .i64 0, .int .i64 0, .bool false]) .i64 .i64 Try.underlying27 Try.underlying3 hi hz0 n (by omega) (by rw [hz1]; omega) (by omega) (by rw [hz2]; omega)
    generalize hcap : grownCap w n 0 40 = cap2 at happ
    have hcapge : n ≤ cap2 := by rw [← hcap]; exact grownCap_ge w _ 0 40
    have hcaple : cap2 ≤ maxLen := by rw [← hcap]; exact grownCap_le_maxLen w _ 0 40 (by unfold maxLen; omega)
    generalize hZ : (Builtin.zeroCells (Value.agg #[.int .i64 0, .int .i64 0, .int .i64 0, .bool false]).cells n ++ Builtin.zeroCells (Value.agg #[.int .i64 0, .int .i64 0, .int .i64 0, .bool false]).cells (cap2 - n)) = Z at happ
    have hZs : Z.size = cap2 * 4 := by rw [← hZ]; simp [size_zeroCells, Value.cells]; omega
    clear hcap hZ
    have h0' : (0 : Int) < (n : Int) := by omega
    have hsl := slice_to (some ⟨w.heap.size, 0, none⟩) n cap2 0 (Nat.zero_le _)
    have hs0 : subA (some ⟨w.heap.size, 0, none⟩) 0 cap2 = some ⟨w.heap.size, 0, none⟩ := by
      unfold subA
      split
      · rfl
      · simp [Addr.add]
    rw [hs0] at hsl
    clear hi hz0 hz1 hz2 hs0 h0
    go_enter Try.func86, Try.ntmps86
    go_wp2_with (at_builtin; refine Lib.wpList_append_run _ rfl _ _ _ _ rfl _ _ rfl rfl _ _ happ ?_)
    go_ret
    refine ⟨(Below.refl _ _).drew.alloc (Nat.le_refl _) _, _, _, rfl, rfl, .inr ⟨w.heap.size, cap2, Z, rfl, Nat.le_refl _, heap_alloc_new w.drew _, Nat.zero_le _, hcaple, hZs, rfl⟩⟩
/-- So many lists, one behind the other. -/
def flat (L : Nat → List Pc) : Nat → List Pc
  | 0 => []
  | n + 1 => flat L n ++ L n
theorem flat_len (L : Nat → List Pc) : ∀ n, (flat L (n + 1)).length = (flat L n).length + (L n).length := fun n => by simp [flat]
set_option maxHeartbeats 1000000 in
theorem Concat_any (b n cap : Nat) (A : Nat → Option Addr) (C : Nat → Nat) (L : Nat → List Pc) (w : World) (hn : n ≤ 3) (hl : ∀ i, i < n → (L i).length ≤ 1000) (hc : ∀ i, i < n → w.cell? ⟨b, i, none⟩ = some (.slice (A i) (L i).length (C i))) (hr : ∀ i, i < n → Pcs w (A i) (L i)) :
    Calls Try.prog 79 #[.slice (some ⟨b, 0, none⟩) n cap] w fun e w' => Below w.heap.size w w' ∧ ∃ x c, e = .returned (.slice x (flat L n).length c) ∧ OwnP w' w.heap.size (.slice x (flat L n).length c) (flat L n) := by
  have hfl : ∀ k, k ≤ n → (flat L k).length ≤ k * 1000 := fun k => by
    induction k with
    | zero => simp [flat]
    | succ k ih => intro h; have := ih (by omega); have := hl k (by omega); rw [flat_len]; omega
  have Hfl : Hid _ := hfl
  have Hr : Hid _ := hr
  have Hl : Hid _ := hl
  clear hfl hr hl
  go_enter Try.func79, Try.ntmps79
  go_wp2
  go_loop [11, 3] (fun i q => ∃ (k : Nat), k ≤ n ∧ i = .int .i64 k ∧ q = .int .i64 ((flat L k).length : Nat)) (fun i _ => n - (intOf i).toNat)
  case atStart => exact ⟨0, Nat.zero_le _, rfl, rfl⟩
  case round =>
    obtain ⟨k, hk, rfl, rfl⟩ := hrel
    by_cases hlt : k < n
    · have hck := hc k hlt
      have h1 := Hfl.out k hk
      have h2 := Hl.out k hlt
      have h3 := flat_len L k
      generalize hq1 : (flat L k).length = q1 at *
      generalize hq2 : (L k).length = q2 at *
      have h4 : ¬ ((q1 : Int) + (q2 : Int) < 0) := by omega
      have H3 : Hid _ := h3
      clear h3 hq1 hq2 hc
      go_wp2
      go_round
      case rel => exact ⟨k + 1, by omega, by go_num, by rw [H3.out]; simp⟩
      case measure => simp [intOf]; omega
    · have hkn : k = n := by omega
      subst hkn
      have h1 := Hfl.out k (Nat.le_refl _)
      have c108 := Grow_any (flat L k).length w (by omega)
      go_wp2_with fail
      refine c108.mono ?_
      rintro e w1 ⟨b1, x, c, rfl, own1⟩
      clear c108
      have HO : Hid (OwnP w1 w.heap.size (.slice x 0 c) []) := own1
      clear own1
      go_wp2
      go_loopw [27, 6] (fun i o wr => ∃ (j : Nat) (y : Option Addr) (cy : Nat), j ≤ k ∧ i = .int .i64 j ∧ o = .slice y (flat L j).length cy ∧ Hid (OwnP wr w.heap.size (.slice y (flat L j).length cy) (flat L j)) ∧ Below w.heap.size w wr) (fun i _ _ => k - (intOf i).toNat)
      case atStart => exact ⟨0, x, c, Nat.zero_le _, rfl, rfl, HO, b1⟩
      case round =>
        obtain ⟨j, y, cy, hj, rfl, rfl, HJ, hb⟩ := hrel
        by_cases hjk : j < k
        · have hcj := cell_on (hc j hjk) hb
          clear hc
          have st := RowP.src ((Hr.out j hjk).below hb)
          have h2 := Hl.out j hjk
          have h3 := Hfl.out j hj
          have hcl := cpp_len (L j)
          have z := hb.size
          have ho := HJ.out
          have e1 : (flat L (j + 1)).length = (flat L j).length + (L j).length := flat_len L j
          have e2 : cpp (flat L (j + 1)) = cpp (flat L j) ++ cpp (L j) := by rw [flat, cpp_app]
          have HE : Hid _ := And.intro e1 e2
          have Hcl : Hid _ := hcl
          clear e1 e2 hcl
          have HOJ : Hid (wr.ownsRow w.heap.size 40 4 (.slice y (flat L j).length cy) (flat L j).length (cpp (flat L j))) := ho
          clear ho
          generalize (flat L j).length = q1 at *
          generalize (L j).length = q2 at *
          go_wp2_with (at_builtin; refine wpList_append_src rfl _ _ 27 rfl w.heap.size 40 _ 4 32 Try.underlying27 info40 rfl (by decide) (.slice y q1 cy) q1 (cpp (flat L j)) rfl HOJ.out (A j) q2 (C j) (cpp (L j)) rfl Hcl.out st (cpp_one _) (by omega) (by decide) z ?_; intro v2 w2 own2 gr2; obtain ⟨y2, c2, e2⟩ := owns_form own2; subst e2; have b2 : Below w.heap.size w w2 := hb.trans (Grown.below gr2 z (owns_ge HOJ.out)); have HO2 : Hid (w2.ownsRow w.heap.size 40 4 (.slice y2 (q1 + q2) c2) (q1 + q2) (cpp (flat L j) ++ cpp (L j))) := own2; clear own2 gr2)
          go_roundw
          case rel => exact ⟨j + 1, y2, c2, by omega, by go_num, by rw [HE.out.1], by show OwnP _ _ _ _; unfold OwnP; rw [HE.out.1, HE.out.2]; exact HO2.out, b2⟩
          case measure => simp [intOf]; omega
        · have hjk' : j = k := by omega
          subst hjk'
          go_wp2
          go_ret
          exact ⟨hb, y, cy, rfl, HJ.out⟩
end Go.Proofs.Ytdbmdblghlfjfaa
