import Derived.Test.YtggkpcgjmanelaaI1
import Derived.Test.YtggkpcgjmanelaaL3
/- The program: nodes in blocks of which something is known; kids by their numbers. -/
namespace Go.Proofs.Ytggkpcgjmanelaa
open Go.ChangeShapes Go.WideShapes Go.ChangeAt Go.RowKit
set_option linter.unusedVariables false
open Bt

attribute [local go_sem] Oper.semAt_some

/-- A node of the program in such blocks. -/
def IX (w : World) (P : Nat → Prop) : Nat → Value → Tr → Prop
  | 0, _, _ => False
  | d + 1, v, t => ∃ a c, t.keys.length ≤ c ∧ IntsP w P a t.keys ∧ ((t.kids = [] ∧ v = .iface 91 (.agg #[.slice a t.keys.length c])) ∨
      (t.kids ≠ [] ∧ ∃ c' b off, v = .iface 101 (nv a t.keys.length c (some ⟨b, off, none⟩) t.kids.length c') ∧ t.kids.length ≤ c' ∧ P b ∧ ∀ i, i < t.kids.length → ∃ p, w.cell? ⟨b, off + i, none⟩ = some p ∧ IX w P d p (gt t.kids i)))
theorem IX.keep {d : Nat} : ∀ {w w' : World} {P : Nat → Prop} {v : Value} {t : Tr}, IX w P d v t → Kp P w w' → IX w' P d v t := by
  induction d with
  | zero => intro w w' P v t h; exact absurd h (by simp [IX])
  | succ d ih =>
    intro w w' P v t h hb
    obtain ⟨a, c, h1, h2, h3⟩ := h
    refine ⟨a, c, h1, h2.keep hb, ?_⟩
    rcases h3 with h3 | ⟨h3, c', b, off, h4, h5, hp, h6⟩
    · exact .inl h3
    · refine .inr ⟨h3, c', b, off, h4, h5, hp, fun i hi => ?_⟩
      obtain ⟨p, k0, k1⟩ := h6 i hi
      exact ⟨p, cell_same k0 (hb b hp (lt_of_cell k0)), ih k1 hb⟩
theorem IX.imp {d : Nat} : ∀ {w : World} {P Q : Nat → Prop} {v : Value} {t : Tr}, IX w P d v t → (∀ b, b < w.heap.size → P b → Q b) → IX w Q d v t := by
  induction d with
  | zero => intro w P Q v t h; exact absurd h (by simp [IX])
  | succ d ih =>
    intro w P Q v t h hb
    obtain ⟨a, c, h1, h2, h3⟩ := h
    refine ⟨a, c, h1, h2.imp hb, ?_⟩
    rcases h3 with h3 | ⟨h3, c', b, off, h4, h5, hp, h6⟩
    · exact .inl h3
    · obtain ⟨p, k0, k1⟩ := h6 0 (by cases hk : t.kids with | nil => exact absurd hk h3 | cons => simp)
      refine .inr ⟨h3, c', b, off, h4, h5, hb b (lt_of_cell k0) hp, fun i hi => ?_⟩
      obtain ⟨p, k0, k1⟩ := h6 i hi
      exact ⟨p, k0, ih k1 hb⟩
theorem IX.mono {w : World} {P : Nat → Prop} {d : Nat} : ∀ {v : Value} {t : Tr}, IX w P d v t → IX w P (d + 1) v t := by
  induction d with
  | zero => intro v t h; exact absurd h (by simp [IX])
  | succ d ih =>
    intro v t h
    obtain ⟨a, c, h1, h2, h3⟩ := h
    refine ⟨a, c, h1, h2, ?_⟩
    rcases h3 with h3 | ⟨h3, c', b, off, h4, h5, hp, h6⟩
    · exact .inl h3
    · refine .inr ⟨h3, c', b, off, h4, h5, hp, fun i hi => ?_⟩
      obtain ⟨p, k0, k1⟩ := h6 i hi
      exact ⟨p, k0, ih k1⟩
theorem IX.inn {d : Nat} : ∀ {w : World} {P : Nat → Prop} {v : Value} {t : Tr}, IX w P d v t → IN w d v t := by
  induction d with
  | zero => intro w P v t h; exact absurd h (by simp [IX])
  | succ d ih =>
    intro w P v t h
    obtain ⟨a, c, h1, h2, h3⟩ := h
    refine ⟨a, c, h1, h2.ints, ?_⟩
    rcases h3 with h3 | ⟨h3, c', b, off, h4, h5, hp, h6⟩
    · exact .inl h3
    · refine .inr ⟨h3, c', b, off, h4, h5, fun i hi => ?_⟩
      obtain ⟨p, k0, k1⟩ := h6 i hi
      exact ⟨p, k0, ih k1⟩
theorem IX.of_in {d : Nat} : ∀ {w : World} {P : Nat → Prop} {v : Value} {t : Tr}, IN w d v t → (∀ b, b < w.heap.size → P b) → IX w P d v t := by
  induction d with
  | zero => intro w P v t h; exact absurd h (by simp [IN])
  | succ d ih =>
    intro w P v t h hb
    obtain ⟨a, c, h1, h2, h3⟩ := h
    refine ⟨a, c, h1, IntsP.of h2 hb, ?_⟩
    rcases h3 with h3 | ⟨h3, c', b, off, h4, h5, h6⟩
    · exact .inl h3
    · obtain ⟨p, k0, k1⟩ := h6 0 (by cases hk : t.kids with | nil => exact absurd hk h3 | cons => simp)
      refine .inr ⟨h3, c', b, off, h4, h5, hb b (lt_of_cell k0), fun i hi => ?_⟩
      obtain ⟨p, k0, k1⟩ := h6 i hi
      exact ⟨p, k0, ih k1 hb⟩
theorem IN.form {w : World} {d : Nat} {v : Value} {t : Tr} (h : IN w d v t) : ∃ T u, v = .iface T u := by
  obtain ⟨d', rfl, a, c, -, -, h3⟩ := h.cases
  rcases h3 with ⟨-, rfl⟩ | ⟨-, c', b, off, rfl, -⟩
  · exact ⟨_, _, rfl⟩
  · exact ⟨_, _, rfl⟩
theorem IX_leaf {w : World} {P : Nat → Prop} {d : Nat} {ks : List Int} {a : Option Addr} {c : Nat} (h1 : ks.length ≤ c) (h2 : IntsP w P a ks) : IX w P (d + 1) (.iface 91 (.agg #[.slice a ks.length c])) ⟨ks, []⟩ :=
  ⟨a, c, h1, h2, .inl ⟨rfl, rfl⟩⟩
theorem IX_fork {w : World} {P : Nat → Prop} {d : Nat} {ks : List Int} {cs : List Tr} {a : Option Addr} {c c' b off : Nat} (h0 : cs ≠ []) (h1 : ks.length ≤ c) (h2 : IntsP w P a ks) (h3 : cs.length ≤ c') (hp : P b) (h4 : ∀ i, i < cs.length → ∃ p, w.cell? ⟨b, off + i, none⟩ = some p ∧ IX w P d p (gt cs i)) : IX w P (d + 1) (.iface 101 (nv a ks.length c (some ⟨b, off, none⟩) cs.length c')) ⟨ks, cs⟩ :=
  ⟨a, c, h1, h2, .inr ⟨h0, c', b, off, rfl, h3, hp, h4⟩⟩

/-- The numbered node at a place. -/
def gs (st : List (Int × Tr)) (i : Nat) : Int × Tr := st.getD i (0, tr0)
theorem gs_eq {l : List (Int × Tr)} {i : Nat} (h : i < l.length) : gs l i = l[i] := by simp [gs, h]
/-- A row of numbered nodes that can be read. -/
def RowS (w : World) (P : Nat → Prop) (d : Nat) (a : Option Addr) (st : List (Int × Tr)) : Prop :=
  st.length ≠ 0 → ∃ b off, a = some ⟨b, off, none⟩ ∧ ∀ i, i < st.length → ∃ v, w.cell? ⟨b, off + i * 2, none⟩ = some (iv (gs st i).1) ∧ w.cell? ⟨b, off + i * 2 + 1, none⟩ = some v ∧ IX w P d v (gs st i).2
theorem info75 : (Try.prog.info? 75).map (fun i => (i.zero, i.size, i.bytes)) = some (some .nilIface, 1, 16) := by kernel_rfl
theorem nums_eq {st : List (Int × Tr)} {ns : List Int} (hl : ns.length = st.length) (h : ∀ i, i < st.length → (gs st i).1 = gi ns i) : st.map (·.1) = ns := by
  apply List.ext_getElem
  · simp [hl]
  · intro i h1 h2
    have := h i (by simpa using h1)
    rw [gs_eq (by simpa using h1), gi_eq h2] at this
    simpa using this
theorem nums_ne {st : List (Int × Tr)} {ns : List Int} {i : Nat} (hi : i < st.length) (h : ¬ (gs st i).1 = gi ns i) : ¬ st.map (·.1) = ns := by
  intro e
  apply h
  rw [← e, gs_eq hi, gi_eq (by simpa using hi)]
  simp
set_option maxHeartbeats 1000000 in
theorem kidsByNumber_any (P : Nat → Prop) (d : Nat) (st : List (Int × Tr)) (ns : List Int) (oa : Option Addr) (oc : Nat) (na : Option Addr) (nc : Nat) (w : World) (hl : ns.length = st.length) (hst : RowS w P d oa st) (hns : Ints w na ns) (hm : st.length ≤ 1000) :
    Calls Try.prog 105 #[.slice oa st.length oc, .slice na ns.length nc] w fun e w' => Below w.heap.size w w' ∧ w.heap.size < w'.heap.size ∧ ∃ x n c, e = .returned (.tuple #[.slice x n c, .bool (decide (st.map (·.1) = ns))]) ∧
      (st.map (·.1) = ns → n = st.length ∧ c = st.length ∧ x = some ⟨w.heap.size, 0, none⟩ ∧ ∀ i, i < st.length → ∃ v, w'.cell? ⟨w.heap.size, i, none⟩ = some v ∧ IX w P d v (gs st i).2) := by
  have hmk := make_any (P := Try.prog) 99 75 _ 1 16 Try.underlying99 info75 .i64 .i64 st.length (by omega) (by omega)
  have hns' := hns
  unfold Ints at hns'
  rw [hl] at hns' ⊢
  have Hst : Hid _ := hst
  have Hns : Hid _ := hns'
  have Hl : Hid _ := hl
  clear hst hns hns' hl
  obtain ⟨n, hn⟩ : ∃ n, st.length = n := ⟨_, rfl⟩
  rw [hn] at hm hmk ⊢
  have Hn : Hid _ := hn
  clear hn
  go_enter Try.func105, Try.ntmps105
  go_wp2
  go_loopw [14] (fun i wr => ∃ (k : Nat) (c : Array Value), k ≤ n ∧ i = .int .i64 k ∧ wr.heap[w.heap.size]? = some (.cells c 75 (0, 0)) ∧ c.size = n ∧ (∀ j, j < k → (gs st j).1 = gi ns j ∧ ∃ v, c[j]? = some v ∧ IX w P d v (gs st j).2) ∧ Below w.heap.size w wr) (fun i _ => n - (intOf i).toNat)
  case atStart => exact ⟨0, _, Nat.zero_le _, rfl, heap_alloc_new w _, by simp [size_made], fun i hi => absurd hi (by simp), (Below.refl _ _).alloc (Nat.le_refl _) _⟩
  case round =>
    obtain ⟨k, c, hk, rfl, hB, hcs, hst, hb⟩ := hrel
    have Hq : Hid _ := hst
    clear hst
    by_cases hlt : k < n
    · obtain ⟨b, off, rfl, hcell⟩ := Hst.out (by rw [Hn.out]; omega)
      obtain ⟨nb, no, rfl, hncell⟩ := Hns.out (by rw [Hn.out]; omega)
      obtain ⟨v, k0, k1, k2⟩ := hcell k (by rw [Hn.out]; exact hlt)
      have k3 : w.cell? ⟨nb, no + k, none⟩ = some (iv (gi ns k)) := hncell k (by rw [Hn.out]; exact hlt)
      have k0' := cell_on k0 hb
      have k1' := cell_on k1 hb
      have k3' := cell_on k3 hb
      obtain ⟨T, u, rfl⟩ := k2.inn.form
      clear hcell hncell k0 k1 k3
      have HB : Hid (wr.heap[w.heap.size]? = some (.cells c 75 (0, 0))) := hB
      have zB := box_lt hB
      clear hB
      generalize hx : (gs st k).1 = X at k0'
      generalize hy : gi ns k = Y at k3'
      have HX : Hid _ := hx
      have HY : Hid _ := hy
      clear hx hy
      obtain ⟨Wa, hWa⟩ : ∃ Wa, wr.alloc (.cells #[iv X, .iface T u] 137) = Wa := ⟨_, rfl⟩
      have ba : Below wr.heap.size wr Wa := by subst hWa; exact below_alloc _ _
      have KA : Hid (Wa.heap[wr.heap.size]? = some (.cells #[iv X, .iface T u] 137 (0, 0))) := by subst hWa; exact al1 _ _
      obtain ⟨x0, x1, -, -⟩ := box2_cells KA.out
      have k3a := cell_on k3' ba
      have hlt' : (k : Int) < (n : Int) := by omega
      by_cases hXY : X = Y
      · subst hXY
        have hXY' : (X != X) = false := by simp
        go_wp2_with fail
        go_quiet (fail)
        clear x0 x1
        obtain ⟨Wb, hWb⟩ : ∃ Wb, Wa.drewN nq = Wb := ⟨_, rfl⟩
        have bb : Below wr.heap.size wr Wb := by subst hWb; exact below_drewN ba _
        obtain ⟨x0, x1, -, -⟩ := box2_cells (w := Wb) (by subst hWb; exact KA.out)
        have HB1 : Hid (Wb.heap[w.heap.size]? = some (.cells c 75 (0, 0))) := box_on HB.out bb
        have g0 : Wb.cell? ⟨w.heap.size, k, none⟩ = some c[k] := cell_of_block HB1.out (by simp)
        have f0 := free_of_block (i := k) HB1.out
        rw [hWb]
        go_wp2_with fail
        go_roundw
        case rel =>
          refine ⟨k + 1, _, by omega, by go_num, block_set HB1.out, by simpa using hcs, ?_, (Below.comp hb bb).setCell (by simp) _⟩
          intro j hj
          by_cases e : j = k
          · subst e
            exact ⟨by rw [HX.out, HY.out], _, set_at (by omega) _, k2⟩
          · obtain ⟨q1, v, q2, q3⟩ := Hq.out j (by omega)
            exact ⟨q1, v, by rw [set_ne e]; exact q2, q3⟩
        case measure => simp [intOf]; omega
      · have hXY' : (X != Y) = true := by simp; exact hXY
        have hne : ¬ st.map (·.1) = ns := nums_ne (by rw [Hn.out]; exact hlt) (by rw [HX.out, HY.out]; exact hXY)
        have hd : decide (st.map (·.1) = ns) = false := decide_eq_false hne
        go_wp2_with fail
        go_quiet (fail)
        go_wp2_with fail
        go_ret2
        exact ⟨Below.comp hb (below_drewN ba _), Nat.lt_of_lt_of_le zB (below_drewN ba nq).size, none, 0, 0, by rw [hd]; rfl, fun h => absurd h hne⟩
    · have hkn : k = n := by omega
      subst hkn
      have heq : st.map (·.1) = ns := nums_eq Hl.out (fun i hi => (Hq.out i (by rw [← Hn.out]; exact hi)).1)
      have hd : decide (st.map (·.1) = ns) = true := decide_eq_true heq
      go_wp2_with fail
      go_ret2
      refine ⟨hb, box_lt hB, some ⟨w.heap.size, 0, none⟩, k, k, by rw [hd]; rfl, fun _ => ⟨rfl, rfl, rfl, fun i hi => ?_⟩⟩
      obtain ⟨q1, v, q2, q3⟩ := Hq.out i hi
      exact ⟨v, cell_of_block hB q2, q3⟩
end Go.Proofs.Ytggkpcgjmanelaa
