import Derived.Test.YtfphffbclpmobaaM1
import Derived.Test.YtfphffbclpmobaaT1
/- Stocks counted up; the texts that parts mean. -/
namespace Go.Proofs.Ytfphffbclpmobaa
open Go.ChangeShapes Go.WideShapes Go.ChangeAt Go.RowKit Go.Maps
set_option linter.unusedVariables false
open Hd

attribute [local go_sem] Oper.semAt_some

/-- A text more in a map of stocks: the map and how many entries. -/
def ad1 (s : SG × Nat) (t : ByteArray) : SG × Nat :=
  match s.1 t with
  | none => (upG s.1 t (some ((s.2 : Int), 1)), s.2 + 1)
  | some (p, q) => (upG s.1 t (some (p, q + 1)), s.2)
def adL (s : SG × Nat) (l : List ByteArray) : SG × Nat := l.foldl ad1 s
theorem adL_snoc (s : SG × Nat) (l : List ByteArray) (t : ByteArray) : adL s (l ++ [t]) = ad1 (adL s l) t := by simp [adL, List.foldl_append]
theorem take_gs {l : List ByteArray} {j : Nat} (h : j < l.length) : l.take (j + 1) = l.take j ++ [gs l j] := by
  rw [List.take_succ_eq_append_getElem h, gs_eq h]
/-- The uses are few. -/
def Qs (g : SG) (Q : Nat) : Prop := ∀ x p q, g x = some (p, q) → 0 ≤ q ∧ q ≤ (Q : Int)
theorem Qs.ad1 {s : SG × Nat} {Q : Nat} (h : Qs s.1 Q) (t : ByteArray) : Qs (ad1 s t).1 (Q + 1) := by
  intro x p q hx
  unfold Go.Proofs.Ytfphffbclpmobaa.ad1 at hx
  split at hx
  · rename_i e
    simp only [upG] at hx
    split at hx
    · simp at hx; omega
    · have := h x p q hx; omega
  · rename_i p' q' e
    simp only [upG] at hx
    split at hx
    · simp at hx
      have := h t p' q' e
      omega
    · have := h x p q hx; omega
theorem Qs.adL {s : SG × Nat} {Q : Nat} (h : Qs s.1 Q) : ∀ l : List ByteArray, Qs (adL s l).1 (Q + l.length) := by
  intro l
  have key : ∀ (l : List ByteArray) (s : SG × Nat) (Q : Nat), Qs s.1 Q → Qs (Go.Proofs.Ytfphffbclpmobaa.adL s l).1 (Q + l.length) := by
    intro l
    induction l with
    | nil => intro s Q h; exact h
    | cons t l ih =>
      intro s Q h
      have := ih (Go.Proofs.Ytfphffbclpmobaa.ad1 s t) (Q + 1) (h.ad1 t)
      rw [List.length_cons, show Q + (l.length + 1) = Q + 1 + l.length by omega]
      exact this
  exact key l s Q h
theorem ownS_made (w : World) (n : Nat) (hn : n ≤ 1000) : OwnS (w.alloc (.cells (made (.string ⟨#[]⟩) n) 9)) w.heap.size (.slice (some ⟨w.heap.size, 0, none⟩) n n) (List.replicate n ⟨#[]⟩) := by
  have := toList_madeCells_one (Value.string ⟨#[]⟩) n
  refine ⟨by simp [css], .inr ⟨w.heap.size, n, made (.string ⟨#[]⟩) n, by simp, Nat.le_refl _, al1 _ _, by simp, by unfold maxLen; omega, by rw [size_made, Nat.mul_one], ?_⟩⟩
  unfold made
  rw [show (Value.string ⟨#[]⟩).cells = #[.string ⟨#[]⟩] from rfl, this]
  simp [css]
theorem OwnS.one (w : World) (s : ByteArray) : OwnS (w.alloc (.cells #[.string s] 9)) w.heap.size (.slice (some ⟨w.heap.size, 0, none⟩) 1 1) [s] :=
  ⟨rfl, .inr ⟨w.heap.size, 1, #[.string s], rfl, Nat.le_refl _, al1 _ _, Nat.le_refl _, by unfold maxLen; decide, rfl, rfl⟩⟩
theorem OwnS.below {w w' : World} {B : Nat} {v : Value} {l : List ByteArray} (h : OwnS w B v l) (hb : Below w.heap.size w w') : OwnS w' B v l := owns_below h hb
/-- The texts that parts mean. -/
def txs (L : List Nm) (l : List Int) : List ByteArray := l.map fun x => (gm L x.toNat).nm
theorem txs_len (L : List Nm) (l : List Int) : (txs L l).length = l.length := by simp [txs]
theorem txs_at (L : List Nm) {l : List Int} {i : Nat} (h : i < l.length) : gs (txs L l) i = (gm L (gi l i).toNat).nm := by
  rw [gs_eq (by rw [txs_len]; exact h)]
  simp [txs, gi_eq h]
set_option maxHeartbeats 2000000 in
theorem texts_any (a : Option Addr) (c : Nat) (l : List Int) (a' : Option Addr) (c' : Nat) (L : List Nm) (w : World) (hl : l.length ≤ 1048576) (hL : L.length ≤ 1048576) (ha : Ints w a l) (hP : Nms w a' L) :
    Calls Try.prog 34 #[.agg #[.slice a l.length c], .slice a' L.length c'] w fun e w' => Below w.heap.size w w' ∧ ((fOk L.length l ∧ ∃ v, e = .returned (.tuple #[v, .bool true]) ∧ OwnS w' w.heap.size v (txs L l)) ∨ (¬ fOk L.length l ∧ e = .returned (.tuple #[.slice none 0 0, .bool false]))) := by
  obtain ⟨W0, hW0⟩ : ∃ W0, w.alloc (.cells #[.slice a l.length c] 44) = W0 := ⟨_, rfl⟩
  have q0 : Below w.heap.size w W0 := by subst hW0; exact below_alloc _ _
  have H1 : Hid (W0.heap[w.heap.size]? = some (.cells #[.slice a l.length c] 44 (0, 0))) := by subst hW0; exact al1 _ _
  obtain ⟨i0, -⟩ := box1_cells H1.out
  have HA : Hid (∀ W, Below w.heap.size w W → Ints W a l) := fun W h => ha.below h
  have HN : Hid (∀ W, Below w.heap.size w W → Nms W a' L) := fun W h => hP.below h
  clear ha hP
  obtain ⟨n, hn⟩ : ∃ n, L.length = n := ⟨_, rfl⟩
  obtain ⟨m, hm⟩ : ∃ m, l.length = m := ⟨_, rfl⟩
  have Hn : Hid (L.length = n) := hn
  have Hm : Hid (l.length = m) := hm
  have HTl : Hid ((txs L l).length = m) := by show _ = _; rw [txs_len, hm]
  rw [hm] at i0 H1 hl hW0
  rw [hn] at hL
  rw [hn, hm]
  clear hn hm
  by_cases h2 : 200 < m
  · have h2' : (200 : Int) < (m : Int) := by omega
    go_enter Try.func34, Try.ntmps34
    go_wp2
    go_ret2
    exact ⟨q0, .inr ⟨fun q => by have := q.2; have := Hm.out; omega, rfl⟩⟩
  · have h2' : ¬ (200 : Int) < (m : Int) := by omega
    have hmk := make_any (P := Try.prog) 72 9 _ 1 16 Try.underlying72 info9 .i64 .i64 m (by omega) (by omega)
    have hmk0 := hmk W0
    clear hmk
    obtain ⟨U, hU⟩ : ∃ U, W0.heap.size = U := ⟨_, rfl⟩
    obtain ⟨W1, hW1⟩ : ∃ W1, W0.alloc (.cells (made (.string ⟨#[]⟩) (m * 1)) 9) = W1 := ⟨_, rfl⟩
    have q1 : Below W0.heap.size W0 W1 := by subst hW1; exact below_alloc _ _
    have HU : Hid (W1.heap[U]? = some (.cells (made (.string ⟨#[]⟩) (m * 1)) 9 (0, 0))) := by subst hW1 hU; exact al1 _ _
    have hUw : w.heap.size + 1 ≤ U := by have := box_lt H1.out; omega
    rw [hW1, hU] at hmk0
    clear hU
    have H2 : Hid (W1.heap[w.heap.size]? = _) := box_on H1.out q1
    obtain ⟨e0, -⟩ := box1_cells H2.out
    have b01 : Below w.heap.size w W1 := Below.comp q0 q1
    have HUw : Hid (w.heap.size + 1 ≤ U) := hUw
    have hzU : Hid (U < W1.heap.size) := box_lt HU.out
    have HBO : Hid (∀ wr, Out U (U + 1) W1 wr → Below w.heap.size w wr) := fun wr h => b01.trans ((h.below (Nat.le_of_lt hzU.out)).mono (by have := HUw.out; omega))
    clear hUw
    go_enter Try.func34, Try.ntmps34
    go_wp2
    clear i0 e0 hW0 hW1 hmk0
    go_loopw [20] (fun i ws => ∃ (k : Nat) (d : Array Value), k ≤ m ∧ i = .int .i64 (k : Int) ∧ Hid (∀ i, i < k → 0 ≤ gi l i ∧ gi l i < n) ∧ Hid (ws.heap[U]? = some (.cells d 9 (0, 0))) ∧ d.size = m ∧ Hid (∀ i, i < k → d[i]? = some (.string (gs (txs L l) i))) ∧ Out U (U + 1) W1 ws) (fun i _ => m - (intOf i).toNat)
    case atStart => exact ⟨0, _, Nat.zero_le _, rfl, fun i h => absurd h (by omega), HU, by simp [size_made], fun i h => absurd h (by omega), Out.refl _ _ _⟩
    case round =>
      obtain ⟨k, d, hk, rfl, HR, HUd, hds, HTx, ho⟩ := hrel
      have hbw := HBO.out _ ho
      by_cases hlt : k < m
      · obtain ⟨fb, foff, rfl, hpc⟩ := HA.out wr hbw (by have := Hm.out; omega)
        have z0 : wr.cell? ⟨fb, foff + k, none⟩ = some (iv (gi l k)) := hpc k (by have := Hm.out; omega)
        clear hpc
        have hkn : (k : Int) < (m : Int) := by omega
        have HTk : Hid (gs (txs L l) k = (gm L (gi l k).toNat).nm) := txs_at L (by rw [Hm.out]; exact hlt)
        have HG0 : Hid ((0 ≤ gi l k ∧ gi l k < n) → ∀ i, i < k + 1 → 0 ≤ gi l i ∧ gi l i < n) := fun h i hi => by
          by_cases e : i = k
          · subst e; exact h
          · exact HR.out i (by omega)
        have HB0 : Hid (¬ (0 ≤ gi l k ∧ gi l k < n) → ¬ fOk n l) := fun h q => h (q.1 k (by rw [Hm.out]; exact hlt))
        generalize gi l k = x at z0 HTk HG0 HB0
        by_cases hx0 : x < 0
        · go_wp2
          go_ret2
          exact ⟨hbw, .inr ⟨HB0.out (by omega), rfl⟩⟩
        · obtain ⟨y, rfl⟩ : ∃ y : Nat, x = (y : Int) := ⟨x.toNat, by omega⟩
          have hd0 : decide ((y : Int) < 0) = false := by simp
          by_cases hyn : y < n
          · have hd1 : decide ((n : Int) ≤ (y : Int)) = false := by simp; omega
            obtain ⟨pb, poff, rfl, hpc⟩ := HN.out wr hbw (by rw [Hn.out]; omega)
            obtain ⟨t0, -⟩ := hpc y (by rw [Hn.out]; exact hyn)
            clear hpc
            have HG1 := HG0.out ⟨by omega, by omega⟩
            have HGi : Hid _ := HG1
            rw [Int.toNat_natCast] at HTk
            generalize (gm L y).nm = tx at t0 HTk
            have hy1 : (y : Int) < (n : Int) := by omega
            have g0 : wr.cell? ⟨U, k, none⟩ = some (d[k]'(by omega)) := cell_of_block HUd.out (by simp)
            have f0 := free_of_block (i := k) HUd.out
            clear HG0 HG1 HB0 hx0
            go_wp2
            go_roundw
            case rel =>
              refine ⟨k + 1, _, by omega, by go_num, HGi.out, block_set HUd.out, by simpa using hds, fun i hi => ?_, ho.setCell (Nat.le_refl _) (Nat.lt_succ_self _) _ _⟩
              by_cases e : i = k
              · subst e; rw [set_at (by omega), HTk.out]
              · rw [set_ne e]; exact HTx.out i (by omega)
            case measure => simp [intOf]; omega
          · have hd1 : decide ((n : Int) ≤ (y : Int)) = true := by simp; omega
            have hd2 : (n : Int) ≤ (y : Int) := by omega
            go_wp2
            go_ret2
            exact ⟨hbw, .inr ⟨HB0.out (by omega), rfl⟩⟩
      · have hkm : k = m := by omega
        subst hkm
        go_wp2
        go_ret2
        refine ⟨hbw, .inl ⟨⟨fun i hi => HR.out i (by have := Hm.out; omega), by have := Hm.out; omega⟩, _, rfl, ?_⟩⟩
        have hm' := HTl.out
        rw [← hm']
        refine ⟨by rw [css_len, Nat.mul_one], .inr ⟨U, (txs L l).length, d, rfl, by have := HUw.out; omega, HUd.out, Nat.le_refl _, by unfold maxLen; omega, by omega, ?_⟩⟩
        apply List.ext_getElem
        · simp [css_len]; omega
        · intro i h1 h2
          rw [css_len] at h2
          have e1 := HTx.out i (by omega)
          have e2 := css_at h2
          rw [List.getElem_take, Array.getElem_toList]
          have e3 := List.getElem?_eq_getElem (l := css (txs L l)) (i := i) (by rw [css_len]; exact h2)
          rw [e3] at e2
          have e4 : d[i]? = some d[i] := by simp
          rw [e4] at e1
          exact (Option.some.inj e1).trans (Option.some.inj e2).symm
end Go.Proofs.Ytfphffbclpmobaa
