import Derived.Test.YtienhdlhlddemaaE6
import Derived.Test.YtienhdlhlddemaaB2
import Derived.Maps.AppendAt
/- The program: roots that are there; rows that grow side by side; a row of ints copied. -/
namespace Go.Proofs.Ytienhdlhlddemaa
open Go.ChangeShapes Go.WideShapes Go.ChangeAt Go.RowKit
set_option linter.unusedVariables false
open Hd

attribute [local go_sem] Oper.semAt_some

/-- A number of a root. -/
def inB (m : Nat) (x : Int) : Bool := decide (0 ≤ x) && decide (x < m)
theorem noRoot_any (E : Nat) (x : Int) (c : Option Addr) (m k : Nat) (w : World) (h2 : w.cell? ⟨E, 2, none⟩ = some (.slice c m k)) (hm : m ≤ 80) :
    Calls Try.prog 38 #[.int .i64 x, .pointer (some ⟨E, 0, none⟩)] w fun e w' => e = .returned (.bool (!inB m x)) ∧ w' = w := by
  by_cases h1 : x < 0
  · have e0 : (!inB m x) = true := by unfold inB; rw [decide_eq_false (by omega)]; rfl
    rw [e0]
    go_enter Try.func38, Try.ntmps38
    go_wp2
    go_ret
    exact ⟨rfl, rfl⟩
  · have h1' : decide (x < 0) = false := by simp; omega
    by_cases h3 : x < m
    · have e0 : (!inB m x) = false := by unfold inB; rw [decide_eq_true (by omega), decide_eq_true h3]; rfl
      have h3' : decide ((m : Int) ≤ x) = false := by simp; omega
      rw [e0]
      go_enter Try.func38, Try.ntmps38
      go_wp2
      go_ret
      exact ⟨rfl, rfl⟩
    · have e0 : (!inB m x) = true := by unfold inB; rw [decide_eq_false h3]; simp
      have h3' : decide ((m : Int) ≤ x) = true := by simp; omega
      rw [e0]
      go_enter Try.func38, Try.ntmps38
      go_wp2
      go_ret
      exact ⟨rfl, rfl⟩
set_option maxHeartbeats 1000000 in
theorem indexNo_any (E : Nat) (c : Option Addr) (m k : Nat) (rq : List Int) (b : Option Addr) (cap : Nat) (w : World) (h2 : w.cell? ⟨E, 2, none⟩ = some (.slice c m k)) (hm : m ≤ 80) (hr : Ints w b rq) (hn : rq.length ≤ 1048576) :
    Calls Try.prog 49 #[.slice b rq.length cap, .func (.func 38) #[] #[.pointer (some ⟨E, 0, none⟩)]] w fun e w' => (∃ z : Int, e = .returned (.int .i64 z) ∧ decide (0 ≤ z) = !(rq.all (inB m))) ∧ w' = w := by
  have cN := fun x => noRoot_any E x c m k w h2 hm
  have HR : Hid (Ints w b rq) := hr
  obtain ⟨n, hnn⟩ : ∃ n, rq.length = n := ⟨_, rfl⟩
  have Hn : Hid _ := hnn
  rw [hnn] at hn ⊢
  clear hnn hr h2
  obtain ⟨oo, hoo⟩ : ∃ oo, (!(rq.all (inB m))) = oo := ⟨_, rfl⟩
  have HO : Hid _ := hoo
  rw [hoo]
  clear hoo
  go_enter Try.func49, Try.ntmps49
  go_wp2
  go_loop [8] (fun s8 => ∃ j : Nat, j ≤ n ∧ s8 = .int .i64 j ∧ Hid (∀ i, i < j → inB m (gi rq i) = true)) (fun s8 => n - (intOf s8).toNat)
  case atStart => exact ⟨0, Nat.zero_le _, rfl, fun i hi => absurd hi (by omega)⟩
  case round =>
    obtain ⟨j, hj, rfl, HP⟩ := hrel
    by_cases hlt : j < n
    · have hj' : j < rq.length := by rw [Hn.out]; exact hlt
      obtain ⟨rb, ro, rfl, hcc⟩ := HR.out (by omega)
      have c0 : w.cell? ⟨rb, ro + j, none⟩ = some (.int .i64 (gi rq j)) := hcc j hj'
      clear hcc
      have hjn : (j : Int) < (n : Int) := by omega
      have HP1 : Hid (inB m (gi rq j) = true → ∀ i, i < j + 1 → inB m (gi rq i) = true) := fun h i hi => by
        by_cases e : i = j
        · subst e; exact h
        · exact HP.out i (by omega)
      have HN1 : Hid (inB m (gi rq j) = false → oo = true) := fun h => by
        rw [← HO.out]
        have : rq.all (inB m) = false := by
          rw [Bool.eq_false_iff]
          intro e
          have := List.all_eq_true.1 e (gi rq j) (by rw [gi_eq hj']; exact List.getElem_mem _)
          rw [h] at this
          cases this
        rw [this]; rfl
      have cN1 := cN (gi rq j)
      clear cN
      generalize gi rq j = x at *
      obtain ⟨bx, hbx⟩ : ∃ bx, inB m x = bx := ⟨_, rfl⟩
      rw [hbx] at cN1 HP1 HN1
      clear hbx
      cases bx with
      | true =>
        go_wp2_with fail
        refine cN1.mono ?_
        rintro e w1 ⟨rfl, hw⟩
        have hw' := hw.symm
        subst hw'
        clear hw
        go_wp2_with fail
        go_round
        case rel => exact ⟨j + 1, by omega, by go_num, by first | exact HP1.out rfl | exact HP1.out trivial⟩
        case measure => simp [intOf]; omega
      | false =>
        have e2 : oo = true := by first | exact HN1.out rfl | exact HN1.out trivial
        subst e2
        go_wp2_with fail
        refine cN1.mono ?_
        rintro e w1 ⟨rfl, hw⟩
        have hw' := hw.symm
        subst hw'
        clear hw
        go_wp2_with fail
        go_ret
        exact ⟨⟨(j : Int), rfl, by simp⟩, rfl⟩
    · have hjn : j = n := by omega
      subst hjn
      have e2 : oo = false := by
        rw [← HO.out]
        have : rq.all (inB m) = true := List.all_eq_true.2 fun x hx => by
          obtain ⟨i, hi, rfl⟩ := List.getElem_of_mem hx
          rw [← gi_eq hi]
          exact HP.out i (by rw [← Hn.out]; exact hi)
        rw [this]; rfl
      subst e2
      go_wp2
      go_ret
      exact ⟨⟨-1, rfl, by decide⟩, rfl⟩
theorem containsNo_any (E : Nat) (c : Option Addr) (m k : Nat) (rq : List Int) (b : Option Addr) (cap : Nat) (w : World) (h2 : w.cell? ⟨E, 2, none⟩ = some (.slice c m k)) (hm : m ≤ 80) (hr : Ints w b rq) (hn : rq.length ≤ 1048576) :
    Calls Try.prog 40 #[.slice b rq.length cap, .func (.func 38) #[] #[.pointer (some ⟨E, 0, none⟩)]] w fun e w' => e = .returned (.bool (!(rq.all (inB m)))) ∧ w' = w := by
  have cI := indexNo_any E c m k rq b cap w h2 hm hr hn
  obtain ⟨n, hnn⟩ : ∃ n, rq.length = n := ⟨_, rfl⟩
  rw [hnn] at cI ⊢
  clear hnn hn hr h2
  generalize (!(rq.all (inB m))) = oo at *
  go_enter Try.func40, Try.ntmps40
  go_wp2_with fail
  refine cI.mono ?_
  rintro e w1 ⟨⟨z, rfl, hz⟩, hw⟩
  have hw' := hw.symm
  subst hw'
  clear hw
  go_wp2
  go_ret
  exact ⟨by rw [← hz]; rfl, rfl⟩
theorem infoK : (Try.prog.info? 62).map (fun i => (i.zero, i.size, i.bytes)) = some (some .nilIface, 1, 16) := by kernel_rfl
theorem wpList_append_at {P : Program} {w : World} {ops : Array Oper} {rest : List Oper} {o : Oper} {a : Act} {Q : Exit → Act → World → Prop} (hgd : o.guard = none) (s x : Operand) (t : TypeId)
    (ho : o.op = .call { callee := .builtin .append, args := #[s, x], argTypes := #[t, t] })
    (base : Nat) (e : TypeId) (z : Value) (size bytes : Nat) (ht : P.underlying t = some (.slice e)) (hinfo : (P.info? e).map (fun i => (i.zero, i.size, i.bytes)) = some (some z, size, bytes)) (hzs : z.cells.size = size) (hsz : 0 < size)
    (v : Value) (n : Nat) (xs : List Value) (hs : a.eval s = v) (hown : w.ownsRow base e size v n xs)
    (ad : Addr) (m c : Nat) (news : List Value) (hx : a.eval x = .slice (some ad) m c) (hl : news.length = m * size) (hnews : ∀ j u, news[j]? = some u → w.cell? (ad.add j) = some u) (h1 : ∀ u ∈ news, u.oneCell' = true)
    (h63 : n + m ≤ 1000000000) (hbytes : bytes ≤ 100000) (hbase : base ≤ w.heap.size)
    (h : ∀ v' w', w'.ownsRow base e size v' (n + m) (xs ++ news) → w.grownBy w' v.ownBlock → (v'.ownBlock = v.ownBlock ∨ v'.ownBlock = some w.heap.size) → wpList P ops Q rest (a.put o.dst v') w') : wpList P ops Q (o :: rest) a w := by
  refine wpList_plain hgd fun K hK => ?_
  obtain ⟨i, hi, hz0, hz1, hz2⟩ := info_parts hinfo
  have hb2 : (n + m) * bytes ≤ 1000000000 * 100000 := Nat.mul_le_mul h63 hbytes
  obtain ⟨v', w', hrun, r1, r2, -, r4⟩ := run_append_own_at (P := P) w base t o.type e i z size bytes ht hi hz0 hz1 hz2 hzs hsz v n xs hown ad m c news hl hnews h1 (by unfold maxLen; omega) (by omega) hbase
  unfold Oper.wp
  simp [execOp, ho, resolve, invoke, builtin, hs, hx, hrun, Result.andThen]
  exact hK _ _ (h v' w' r1 r2 r4)
/-- Two rows that grow side by side, behind a mark. -/
structure St (W : World) (Z : Nat) (va vb : Value) (xs ys : List Value) : Prop where
  a : W.ownsRow Z 62 1 va xs.length xs
  b : W.ownsRow Z 3 1 vb ys.length ys
  dj : ∀ k, va.ownBlock = some k → vb.ownBlock = some k → False
  z : Z ≤ W.heap.size
theorem owns_ltB {W : World} {Z : Nat} {e : TypeId} {n : Nat} {v : Value} {l : List Value} (h : W.ownsRow Z e 1 v n l) : ∀ b, v.ownBlock = some b → b < W.heap.size := by
  intro b hb
  rcases h.2 with ⟨rfl, _⟩ | ⟨g, cap, cur, rfl, _, hg, _⟩
  · simp [Value.ownBlock] at hb
  · simp [Value.ownBlock] at hb
    subst hb
    exact box_lt hg
theorem St.below {W w' : World} {Z : Nat} {va vb : Value} {xs ys : List Value} (h : St W Z va vb xs ys) (hb : Below W.heap.size W w') : St w' Z va vb xs ys :=
  ⟨owns_below h.a hb, owns_below h.b hb, h.dj, Nat.le_trans h.z hb.size⟩
theorem owns_set {W : World} {Z : Nat} {e : TypeId} {n : Nat} {v : Value} {l : List Value} (h : W.ownsRow Z e 1 v n l) {E o : Nat} {x : Value} (hE : E < Z) : (W.setCell ⟨E, o, none⟩ x).ownsRow Z e 1 v n l := by
  have hge := owns_ge h
  have ho := out_setCell W E o x
  refine h.kept (row := some E) ⟨ho.os, ho.tape, ho.output, ho.size, fun k hk hne => ho.block k hk (by have : k ≠ E := fun e => hne (by rw [e]); omega)⟩ ?_
  cases hv : v.ownBlock with
  | none => exact .inl rfl
  | some b => exact .inr (fun e => by have := hge b hv; simp at e; omega)
theorem St.set {W : World} {Z : Nat} {va vb : Value} {xs ys : List Value} (h : St W Z va vb xs ys) {E o : Nat} {x : Value} (hE : E < Z) : St (W.setCell ⟨E, o, none⟩ x) Z va vb xs ys :=
  ⟨owns_set h.a hE, owns_set h.b hE, h.dj, by have := h.z; simpa using this⟩
theorem owns_other {W w' : World} {Z : Nat} {e : TypeId} {n : Nat} {v : Value} {l : List Value} {row : Option Nat} (h : W.ownsRow Z e 1 v n l) (hg : W.grownBy w' row) (hd : ∀ k, row = some k → v.ownBlock = some k → False) : w'.ownsRow Z e 1 v n l := by
  refine h.kept hg ?_
  cases hv : v.ownBlock with
  | none => exact .inl rfl
  | some b => exact .inr (fun e => hd b e.symm hv)
theorem St.apA {W w' : World} {Z : Nat} {va vb v' u : Value} {xs ys : List Value} (h : St W Z va vb xs ys) (h1 : w'.ownsRow Z 62 1 v' (xs.length + 1) (xs ++ [u])) (h2 : W.grownBy w' va.ownBlock) (h3 : v'.ownBlock = va.ownBlock ∨ v'.ownBlock = some W.heap.size) : St w' Z v' vb (xs ++ [u]) ys ∧ Below Z W w' := by
  have hb := owns_ltB h.b
  refine ⟨⟨by rw [List.length_append]; exact h1, owns_other h.b h2 (fun k h4 h5 => h.dj k h4 h5), fun k h4 h5 => ?_, Nat.le_trans h.z h2.size⟩, Grown.below h2 h.z (owns_ge h.a)⟩
  rcases h3 with h3 | h3
  · rw [h3] at h4; exact h.dj k h4 h5
  · rw [h3] at h4
    have := hb k h5
    simp at h4
    omega
theorem St.apB {W w' : World} {Z : Nat} {va vb v' u : Value} {xs ys : List Value} (h : St W Z va vb xs ys) (h1 : w'.ownsRow Z 3 1 v' (ys.length + 1) (ys ++ [u])) (h2 : W.grownBy w' vb.ownBlock) (h3 : v'.ownBlock = vb.ownBlock ∨ v'.ownBlock = some W.heap.size) : St w' Z va v' xs (ys ++ [u]) ∧ Below Z W w' := by
  have hb := owns_ltB h.a
  refine ⟨⟨owns_other h.a h2 (fun k h4 h5 => h.dj k h5 h4), by rw [List.length_append]; exact h1, fun k h4 h5 => ?_, Nat.le_trans h.z h2.size⟩, Grown.below h2 h.z (owns_ge h.b)⟩
  rcases h3 with h3 | h3
  · rw [h3] at h5; exact h.dj k h4 h5
  · rw [h3] at h5
    have := hb k h4
    simp at h5
    omega
theorem St.nil (W : World) : St W W.heap.size (.slice none 0 0) (.slice none 0 0) [] [] := ⟨⟨rfl, .inl ⟨rfl, rfl⟩⟩, ⟨rfl, .inl ⟨rfl, rfl⟩⟩, fun k h => by simp [Value.ownBlock] at h, Nat.le_refl _⟩
/-- A row that is owned can be read. -/
theorem owns_at {W : World} {Z : Nat} {e : TypeId} {v : Value} {n : Nat} {l : List Value} (h : W.ownsRow Z e 1 v n l) (f : Nat → Value) (hf : ∀ i, i < n → l[i]? = some (f i)) : ∃ a c, v = .slice a n c ∧ n ≤ c ∧ At W a n f := by
  rcases h.2 with ⟨rfl, rfl⟩ | ⟨g, cap, cur, rfl, hb, hg, hc, _, hcs, ht⟩
  · exact ⟨none, 0, rfl, Nat.le_refl _, fun h => absurd rfl h⟩
  · refine ⟨_, cap, rfl, hc, fun _ => ⟨g, 0, rfl, fun i hi => ?_⟩⟩
    rw [Nat.zero_add]
    refine cell_of_block hg ?_
    have := hf i hi
    rw [← ht, List.getElem?_take, if_pos (by omega)] at this
    simpa using this
theorem sz3 : (Try.prog.info? 3).map (·.size) = some 1 := by kernel_rfl
set_option maxHeartbeats 1000000 in
theorem copyInt_any (a : Option Addr) (cap n : Nat) (cs : List Value) (w : World) (hl : cs.length = n) (h1 : ∀ u ∈ cs, u.oneCell' = true) (hn : n ≤ 1048576) (hsrc : n = 0 ∨ ∃ ad, a = some ad ∧ ∀ j u, cs[j]? = some u → w.cell? (ad.add j) = some u) :
    Calls Try.prog 36 #[.slice a n cap] w fun e w' => Below w.heap.size w w' ∧ e = .returned (.slice (some ⟨w.heap.size, 0, none⟩) n n) ∧ w'.heap[w.heap.size]? = some (.cells cs.toArray 3 (0, 0)) := by
  have hmk := make_any (P := Try.prog) 23 3 _ 1 8 Try.underlying23 info3 .i64 .i64 n (by omega) (by omega)
  simp only [Nat.mul_one] at hmk
  obtain ⟨W0, hW0⟩ : ∃ W0, w.alloc (.cells (made (.int .i64 0) n) 3) = W0 := ⟨_, rfl⟩
  have q0 : Below w.heap.size w W0 := by subst hW0; exact below_alloc _ _
  have HA : Hid (W0.heap[w.heap.size]? = some (.cells (made (.int .i64 0) n) 3 (0, 0))) := by subst hW0; exact al1 _ _
  have hs0 : n = 0 ∨ ∃ ad, a = some ad ∧ ∀ j u, cs[j]? = some u → W0.cell? (ad.add j) = some u := by
    rcases hsrc with h | ⟨ad, e, h⟩
    · exact .inl h
    · refine .inr ⟨ad, e, fun j u hj => ?_⟩
      have := h j u hj
      rw [q0.cell (p := ad.add j) (World.block_lt_of_cell? w _ this)]
      exact this
  have HS : Hid _ := hs0
  have HL : Hid _ := hl
  have H1 : Hid _ := h1
  have Hfit : Hid (cs.length ≤ (made (.int .i64 0) n).size) := by show _ ≤ _; rw [hl, size_made]; exact Nat.le_refl _
  have Hdrop : Hid ((cs ++ (made (.int .i64 0) n).toList.drop cs.length).toArray = cs.toArray) := by
    show _ = _
    rw [List.drop_of_length_le (by rw [hl]; simp [size_made]), List.append_nil]
  clear hl h1 hsrc hs0
  go_enter Try.func36, Try.ntmps36
  go_wp2_with (refine wpList_copy_mine rfl _ _ 23 23 rfl 3 1 Try.underlying23 sz3 w.heap.size n n a n cap rfl rfl (made (.int .i64 0) n) 3 cs HA.out (by rw [HL.out, Nat.mul_one]) (Nat.le_refl _) HS.out Hfit.out H1.out ?_; intro w1 HG o1)
  go_ret
  refine ⟨q0.trans (o1.below (by have := q0.size; omega) |>.mono (by omega)), rfl, ?_⟩
  rw [HG.out, Hdrop.out]
theorem copyRow_any (a : Option Addr) (cap : Nat) (l : List Int) (w : World) (hn : l.length ≤ 1048576) (h : Ints w a l) :
    Calls Try.prog 36 #[.slice a l.length cap] w fun e w' => Below w.heap.size w w' ∧ e = .returned (.slice (some ⟨w.heap.size, 0, none⟩) l.length l.length) ∧ Row w' w.heap.size l :=
  copyInt_any a cap l.length (cis l) w (cis_len l) (cis_one l) hn (At.src h)
end Go.Proofs.Ytienhdlhlddemaa
