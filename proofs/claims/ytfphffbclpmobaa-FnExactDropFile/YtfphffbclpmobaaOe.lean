import Derived.Test.YtfphffbclpmobaaOd
import Derived.Test.YtfphffbclpmobaaO4
import Derived.Test.YtfphffbclpmobaaPa
import Derived.Test.YtfphffbclpmobaaOL
/- spec.DropFile: what each step keeps. -/
namespace Go.Proofs.Ytfphffbclpmobaa
open Go.ChangeShapes Go.WideShapes Go.ChangeAt Go.RowKit
set_option linter.unusedVariables false
open Hd

attribute [local go_sem] Oper.semAt_some

theorem IB.keepN {w w' : World} {B C C' : Nat} {v : Value} {l : List Int} {g : Nat} {t0 : TypeId} (h : IB w B C v l g) (k : KeepNot t0 w w') (h3 : (3 : TypeId) ≠ t0) (hz : C ≤ C') : IB w' B C' v l g := by
  obtain ⟨a, c, e, hc, hr⟩ := h
  exact ⟨a, c, e, hc, fun hn => by obtain ⟨r1, r2, r3, cs, r4, r5⟩ := hr hn; exact ⟨r1, r2, by omega, cs, k _ _ _ r4 h3, r5⟩⟩
theorem OwnFd.keepN {w w' : World} {Lo B : Nat} {v : Value} {L : List (List Int)} {t0 : TypeId} (h : OwnFd w Lo B v L) (k : KeepNot t0 w w') (h1 : 44 ≠ t0) (h3 : (3 : TypeId) ≠ t0) (hz : w.heap.size ≤ w'.heap.size) : OwnFd w' Lo B v L := by
  obtain ⟨ks, gb, o1, o2, o3⟩ := h
  exact ⟨ks, gb, k.owns o1 h1, fun i hi => (o2 i hi).keepN k h3 hz, o3⟩
/-- A vault in a box, its pieces in a row of one's own. -/
def DrI (w W3 ws : World) (z : Nat) (px : Option Addr) (pc : Nat) (fv : Value) (P : List Nm) : Prop :=
  ws.heap[z]? = some (.cells #[.slice px P.length pc, fv] 30 (0, 0)) ∧ OwnN ws w.heap.size (.slice px P.length pc) P ∧ KeepNot 46 W3 ws ∧ Below w.heap.size w ws ∧ W3.heap.size ≤ ws.heap.size
section
variable {w W3 ws : World} {z : Nat} {px : Option Addr} {pc : Nat} {fv : Value} {P : List Nm}
theorem DrI.turn {i : Nat} (h : DrI w W3 ws z px pc fv P) (hi : i < P.length) :
    ∃ g, px = some ⟨g, 0, none⟩ ∧ (ws.cell? ⟨g, i * 2 + 1, none⟩ = some (.int .i64 (gm P i).fl) ∧ ws.frozen? ⟨g, i * 2 + 1, none⟩ = false) ∧ ∀ x, DrI w W3 (ws.setCell ⟨g, i * 2 + 1, none⟩ (.int .i64 x)) z px pc fv (P.set i ⟨(gm P i).nm, x⟩) := by
  obtain ⟨h1, h3, h5, h7, h8⟩ := h
  rcases h3.2 with ⟨e, h0⟩ | ⟨g, cap, cur, e, hb, hg, hc, hm, hcs, ht⟩
  · omega
  · simp only [Value.slice.injEq, true_and] at e
    obtain ⟨rfl, rfl⟩ := e
    have hk := (cns_at P i hi).2
    rw [← ht, List.getElem?_take, if_pos (by omega)] at hk
    have hk' : cur[i * 2 + 1]? = some (.int .i64 (gm P i).fl) := by simpa using hk
    refine ⟨g, rfl, ⟨cell_of_block hg hk', free_of_block hg⟩, fun x => ?_⟩
    have o8 : Out g (g + 1) ws (ws.setCell ⟨g, i * 2 + 1, none⟩ (.int .i64 x)) := out_setCell _ _ _ _
    have k8 := KeepNot.of_out o8 hg
    have hne : z ≠ g := fun e => by
      subst e
      rw [hg] at h1
      simp at h1
    refine ⟨?_, ?_, h5.trans k8, h7.trans ((o8.below (Nat.le_of_lt (box_lt hg))).mono hb), Nat.le_trans h8 o8.size⟩
    · rw [List.length_set]; exact box_out h1 o8 (by omega)
    · unfold OwnN
      rw [List.length_set]
      refine ⟨by rw [cns_len, List.length_set], .inr ⟨g, pc, cur.setIfInBounds (i * 2 + 1) (.int .i64 x), rfl, hb, block_set hg, hc, hm, by simpa using hcs, ?_⟩⟩
      rw [← cns_set P i x hi, ← ht, Array.toList_setIfInBounds, List.take_set]
theorem DrI.below {w' : World} (h : DrI w W3 ws z px pc fv P) (hb : Below ws.heap.size ws w') : DrI w W3 w' z px pc fv P := by
  obtain ⟨h1, h3, h5, h7, h8⟩ := h
  exact ⟨box_on h1 hb, owns_below h3 hb, h5.trans (KeepNot.of_below hb _), Below.comp h7 hb, Nat.le_trans h8 hb.size⟩
end
/-- An append among operations that are drawn. -/
theorem oper_append_src {P : Program} {w : World} {o : Oper} {a : Act} {K : Act → World → Prop} {Q : Exit → Act → World → Prop} (s x : Operand) (t : TypeId)
    (ho : o.op = .call { callee := .builtin .append, args := #[s, x], argTypes := #[t, t] })
    (base : Nat) (e : TypeId) (z : Value) (size bytes : Nat) (ht : P.underlying t = some (.slice e)) (hinfo : (P.info? e).map (fun i => (i.zero, i.size, i.bytes)) = some (some z, size, bytes)) (hzs : z.cells.size = size) (hsz : 0 < size)
    (v : Value) (n : Nat) (xs : List Value) (hs : a.eval s = v) (hown : w.ownsRow base e size v n xs)
    (sa : Option Addr) (m c : Nat) (news : List Value) (hx : a.eval x = .slice sa m c) (hl : news.length = m * size) (hsrc : m = 0 ∨ ∃ ad, sa = some ad ∧ ∀ j u, news[j]? = some u → w.cell? (ad.add j) = some u) (h1 : ∀ u ∈ news, u.oneCell' = true)
    (h63 : n + m ≤ 1000000000) (hbytes : bytes ≤ 100000) (hbase : base ≤ w.heap.size)
    (h : ∀ v' w', w'.ownsRow base e size v' (n + m) (xs ++ news) → w.grownBy w' v.ownBlock → K (a.put o.dst v') w') : Oper.wp P o a w K Q := by
  obtain ⟨i, hi, hz0, hz1, hz2⟩ := info_parts hinfo
  have hb2 : (n + m) * bytes ≤ 1000000000 * 100000 := Nat.mul_le_mul h63 hbytes
  obtain ⟨v', w', hrun, r1, r2⟩ := run_append_src (P := P) w base t o.type e i z size bytes ht hi hz0 hz1 hz2 hzs hsz v n xs hown sa m c news hl hsrc h1 (by unfold maxLen; omega) (by omega) hbase
  unfold Oper.wp
  simp [execOp, ho, resolve, invoke, builtin, hs, hx, hrun, Result.andThen]
  exact h v' w' r1 r2
theorem add_at (b o j : Nat) : (⟨b, o, none⟩ : Addr).add j = ⟨b, o + j, none⟩ := by by_cases h : j = 0 <;> simp [Addr.add, h]
theorem sliceF_to (b off n c k : Nat) (h : k ≤ c) (w : World) : (Instr.slice 28 (.slice (some ⟨b, off, none⟩) n c) none (some (.int .i64 (k : Int))) none).run Try.prog w = .ok (.slice (some ⟨b, off, none⟩) k c) w := by
  rw [run_slice_h w 28 (some ⟨b, off, none⟩) n c (by kernel_rfl) .i64 k (by omega) (by omega), show Try.prog.elem 28 = 44 from by kernel_rfl, Try.sizeOf44]
  simp only [Result.andThen, sliced]
  split
  · simp
  · simp [addN]
theorem sliceF_from (b n c k : Nat) (h : k + 1 ≤ n) (hc : n ≤ c) : ∃ ad : Addr, (k + 1 < n → ad = ⟨b, k + 1, none⟩) ∧ ∀ w, (Instr.slice 28 (.slice (some ⟨b, 0, none⟩) n c) (some (.int .i64 ((k : Int) + 1))) none none).run Try.prog w = .ok (.slice (some ad) (n - (k + 1)) (c - (k + 1))) w := by
  by_cases e : c = k + 1
  · refine ⟨⟨b, 0, none⟩, fun h => by omega, fun w => ?_⟩
    rw [run_slice_l w 28 (some ⟨b, 0, none⟩) n c (by kernel_rfl) .i64 ((k : Int) + 1) (by omega) (by omega), show Try.prog.elem 28 = 44 from by kernel_rfl, Try.sizeOf44]
    simp only [Result.andThen, sliced]
    rw [show ((k : Int) + 1).toNat = k + 1 by omega, if_pos e]
  · refine ⟨⟨b, k + 1, none⟩, fun _ => rfl, fun w => ?_⟩
    rw [run_slice_l w 28 (some ⟨b, 0, none⟩) n c (by kernel_rfl) .i64 ((k : Int) + 1) (by omega) (by omega), show Try.prog.elem 28 = 44 from by kernel_rfl, Try.sizeOf44]
    simp only [Result.andThen, sliced]
    rw [show ((k : Int) + 1).toNat = k + 1 by omega, if_neg e]
    simp [Addr.add]
theorem fvs_one (L : List (List Int)) (ks : Nat → Option Addr × Nat) : ∀ u ∈ fvs L ks, u.oneCell' = true := fun u hu => by
  obtain ⟨i, -, rfl⟩ := List.mem_map.1 hu
  rfl
/-- What the two appends copy from. -/
theorem OwnFd.src {w : World} {B fb : Nat} {m fc : Nat} {L : List (List Int)} {ks : Nat → Option Addr × Nat} (h : w.ownsRow B 44 1 (.slice (some ⟨fb, 0, none⟩) m fc) L.length (fvs L ks)) (hm : L.length = m) : B ≤ fb ∧ m ≤ fc ∧ (∃ c, w.heap[fb]? = some (.cells c 44 (0, 0))) ∧ ∀ j u, (fvs L ks)[j]? = some u → w.cell? ⟨fb, j, none⟩ = some u := by
  subst hm
  rcases h.2 with ⟨e, h0⟩ | ⟨g, cap, cur, e, hb, hg, hc, hm, hcs, ht⟩
  · simp at e
  · simp only [Value.slice.injEq, Option.some.injEq, Addr.mk.injEq, true_and] at e
    obtain ⟨⟨rfl, -⟩, rfl⟩ := e
    refine ⟨hb, hc, ⟨cur, hg⟩, fun j u hj => ?_⟩
    have hlt : j < L.length := by
      have := (List.getElem?_eq_some_iff.1 hj).1
      simpa [fvs] using this
    rw [← ht, List.getElem?_take, if_pos (by omega)] at hj
    exact cell_of_block hg (by simpa using hj)
/-- One file's parts, read. -/
theorem OwnFd.at_ {w : World} {Lo B : Nat} {v : Value} {L : List (List Int)} (h : OwnFd w Lo B v L) {f : Nat} (hf : f < L.length) : ∃ b ca ka kc, v = .slice (some ⟨b, 0, none⟩) L.length ca ∧ B ≤ b ∧ w.cell? ⟨b, f, none⟩ = some (.slice ka (gf L f).length kc) ∧ (∀ t0 ws, KeepNot t0 w ws → (3 : TypeId) ≠ t0 → w.heap.size ≤ ws.heap.size → Ints ws ka (gf L f)) ∧ (gf L f).length ≤ kc := by
  obtain ⟨ks, gb, o1, o2, o3⟩ := h
  rcases o1.2 with ⟨e, h0⟩ | ⟨g, cap, cur, e, hb, hg, hc, hm, hcs, ht⟩
  · omega
  · have hk : (fvs L ks)[f]? = some (.slice (ks f).1 (gf L f).length (ks f).2) := by
      unfold fvs
      rw [List.getElem?_map, List.getElem?_range hf]
      rfl
    rw [← ht, List.getElem?_take, if_pos (by omega)] at hk
    obtain ⟨a, c, e2, e3, e4⟩ := (o2 f hf).ints
    simp only [Value.slice.injEq, true_and] at e2
    refine ⟨g, cap, (ks f).1, (ks f).2, e, hb, cell_of_block hg (by simpa using hk), fun t0 ws k h3 hz => ?_, by rw [e2.2]; exact e3⟩
    obtain ⟨a', c', e5, e6, e7⟩ := ((o2 f hf).keepN k h3 hz).ints
    simp only [Value.slice.injEq, true_and] at e5
    rw [e5.1]; exact e7
theorem fvs_erase (L : List (List Int)) (ks : Nat → Option Addr × Nat) (f : Nat) (hf : f < L.length) : (fvs L ks).take f ++ (fvs L ks).drop (f + 1) = fvs (L.eraseIdx f) (fun i => if i < f then ks i else ks (i + 1)) := by
  have hl : (fvs L ks).length = L.length := by simp [fvs]
  rw [← List.eraseIdx_eq_take_drop_succ]
  have hge : ∀ i, gf (L.eraseIdx f) i = gf L (if i < f then i else i + 1) := fun i => by
    unfold gf
    simp only [List.getD_eq_getElem?_getD, List.getElem?_eraseIdx]
    split <;> rfl
  apply List.ext_getElem?
  intro i
  rw [List.getElem?_eraseIdx]
  unfold fvs
  simp only [List.getElem?_map]
  rw [List.length_eraseIdx, if_pos hf]
  by_cases h1 : i < f
  · rw [if_pos h1, List.getElem?_range (by omega), List.getElem?_range (by omega)]
    simp only [Option.map_some, hge, if_pos h1]
  · rw [if_neg h1]
    by_cases h2 : i < L.length - 1
    · rw [List.getElem?_range (by omega), List.getElem?_range (by omega)]
      simp only [Option.map_some, hge, if_neg h1]
    · rw [List.getElem?_eq_none (by simp; omega), List.getElem?_eq_none (by simp; omega)]; rfl
theorem gf_erase (L : List (List Int)) (f i : Nat) : gf (L.eraseIdx f) i = gf L (if i < f then i else i + 1) := by
  unfold gf
  simp only [List.getD_eq_getElem?_getD, List.getElem?_eraseIdx]
  split <;> rfl
/-- The files but one, in a row laid anew. -/
theorem OwnFd.erase {w w' : World} {Lo B' : Nat} {v : Value} {L : List (List Int)} {ks : Nat → Option Addr × Nat} {gb : Nat → Nat} {f : Nat} (hf : f < L.length) (h2 : ∀ i, i < L.length → IB w 0 w.heap.size (.slice (ks i).1 (gf L i).length (ks i).2) (gf L i) (gb i)) (h3 : ∀ i j, i < j → j < L.length → gf L i ≠ [] → gf L j ≠ [] → gb i < gb j) (h4 : ∀ i, i < L.length → gf L i ≠ [] → Lo ≤ gb i)
    (hb : Below w.heap.size w w') (ho : w'.ownsRow B' 44 1 v (L.length - 1) ((fvs L ks).take f ++ (fvs L ks).drop (f + 1))) : OwnFd w' Lo B' v (L.eraseIdx f) := by
  have hl : (L.eraseIdx f).length = L.length - 1 := by rw [List.length_eraseIdx, if_pos hf]
  refine ⟨fun i => if i < f then ks i else ks (i + 1), fun i => if i < f then gb i else gb (i + 1), ?_, fun i hi => ?_, fun i j hij hj hi1 hj1 => ?_, fun i hi hi1 => ?_⟩
  · rw [hl, ← fvs_erase L ks f hf]; exact ho
  · rw [gf_erase]
    rw [hl] at hi
    by_cases h1 : i < f
    · simp only [if_pos h1]; exact ((h2 i (by omega)).below hb).mono (Nat.le_refl _) hb.size
    · simp only [if_neg h1]; exact ((h2 (i + 1) (by omega)).below hb).mono (Nat.le_refl _) hb.size
  · rw [gf_erase] at hi1 hj1
    rw [hl] at hj
    by_cases h1 : i < f <;> by_cases h2 : j < f <;> simp only [h1, h2, if_true, if_false] at hi1 hj1 ⊢
    · exact h3 _ _ hij (by omega) hi1 hj1
    · exact h3 _ _ (by omega) (by omega) hi1 hj1
    · omega
    · exact h3 _ _ (by omega) (by omega) hi1 hj1
  · rw [gf_erase] at hi1
    rw [hl] at hi
    by_cases h1 : i < f <;> simp only [h1, if_true, if_false] at hi1 ⊢
    · exact h4 _ (by omega) hi1
    · exact h4 _ (by omega) hi1
/-- A file's parts, numbered anew. -/
def tT (P : List Nm) (l : List Int) : List Int := l.map fun y => (plc P y.toNat : Int)
theorem tT_len (P : List Nm) (l : List Int) : (tT P l).length = l.length := List.length_map _
theorem tT_at (P : List Nm) (l : List Int) {q : Nat} (hq : q < l.length) : gi (tT P l) q = (plc P (gi l q).toNat : Int) := by
  rw [gi_eq hq, gi_eq (by rw [tT_len]; exact hq)]
  simp [tT]
theorem tT_nil {P : List Nm} {l : List Int} : tT P l = [] ↔ l = [] := by simp [tT]
theorem gf_map (P : List Nm) (L : List (List Int)) (i : Nat) : gf (L.map (tT P)) i = tT P (gf L i) := by
  unfold gf
  simp only [List.getD_eq_getElem?_getD, List.getElem?_map]
  cases L[i]? with
  | none => rfl
  | some x => rfl
theorem fvs_map (P : List Nm) (L : List (List Int)) (ks : Nat → Option Addr × Nat) : fvs (L.map (tT P)) ks = fvs L ks := by
  unfold fvs
  rw [List.length_map]
  refine List.map_congr_left fun i _ => ?_
  rw [gf_map, tT_len]
/-- Some files' parts are numbered anew. -/
def TuI (P : List Nm) (L : List (List Int)) (ks : Nat → Option Addr × Nat) (gb : Nat → Nat) (j : Nat) (ws : World) : Prop :=
  ∀ i, i < L.length → IB ws 0 ws.heap.size (.slice (ks i).1 (gf L i).length (ks i).2) (if i < j then tT P (gf L i) else gf L i) (gb i)
theorem TuI.below {P : List Nm} {L : List (List Int)} {ks : Nat → Option Addr × Nat} {gb : Nat → Nat} {j : Nat} {ws w' : World} (h : TuI P L ks gb j ws) (hb : Below ws.heap.size ws w') : TuI P L ks gb j w' := fun i hi => ((h i hi).below hb).mono (Nat.le_refl _) hb.size
theorem TuI.read {P : List Nm} {L : List (List Int)} {ks : Nat → Option Addr × Nat} {gb : Nat → Nat} {j : Nat} {ws : World} (h : TuI P L ks gb j ws) (hj : j < L.length) (hn : (gf L j).length ≠ 0) : (ks j).1 = some ⟨gb j, 0, none⟩ ∧ ∃ cs, ws.heap[gb j]? = some (.cells cs 3 (0, 0)) ∧ intsN (gf L j).length (gf L j) cs := by
  have h1 := h j hj
  rw [if_neg (Nat.lt_irrefl _)] at h1
  obtain ⟨a, c, e, -, hr⟩ := h1
  obtain ⟨r1, -, -, r4⟩ := hr (fun e => hn (by rw [e]; rfl))
  simp only [Value.slice.injEq, true_and] at e
  exact ⟨by rw [e.1]; exact r1, r4⟩
theorem TuI.next {P : List Nm} {L : List (List Int)} {ks : Nat → Option Addr × Nat} {gb : Nat → Nat} {j g hj : Nat} {W ws : World} (h : TuI P L ks gb j W) (hjl : j < L.length) (ho : Out g hj W ws) (h0 : (gf L j).length = 0 → hj = g) (h1 : (gf L j).length ≠ 0 → g = gb j ∧ hj = g + 1)
    (hinc : ∀ i j, i < j → j < L.length → gf L i ≠ [] → gf L j ≠ [] → gb i < gb j) (hc : (gf L j).length ≠ 0 → ∃ cs, ws.heap[g]? = some (.cells cs 3 (0, 0)) ∧ intsN (gf L j).length (tT P (gf L j)) cs) : TuI P L ks gb (j + 1) ws := fun i hi => by
  have hI := h i hi
  by_cases e : i = j
  · subst e
    rw [if_pos (by omega)]
    rw [if_neg (Nat.lt_irrefl _)] at hI
    obtain ⟨a, c, e1, e2, hr⟩ := hI
    refine ⟨a, c, by rw [tT_len]; exact e1, by rw [tT_len]; exact e2, fun hn => ?_⟩
    have hn' : gf L i ≠ [] := fun e => hn (tT_nil.2 e)
    obtain ⟨r1, r2, r3, -⟩ := hr hn'
    obtain ⟨cs, k1, k2⟩ := hc (fun e => hn' (List.eq_nil_of_length_eq_zero e))
    rw [(h1 (fun e => hn' (List.eq_nil_of_length_eq_zero e))).1] at k1
    exact ⟨r1, Nat.zero_le _, box_lt k1, cs, k1, by rw [tT_len]; exact k2⟩
  · have e1 : (if i < j + 1 then tT P (gf L i) else gf L i) = if i < j then tT P (gf L i) else gf L i := by
      by_cases h2 : i < j
      · rw [if_pos h2, if_pos (by omega)]
      · rw [if_neg h2, if_neg (by omega)]
    rw [e1]
    refine (hI.out ho (fun hn => ?_)).mono (Nat.le_refl _) ho.size
    have hn' : gf L i ≠ [] := fun e => hn (by rw [e]; split <;> rfl)
    by_cases hz : (gf L j).length = 0
    · have := h0 hz; omega
    · obtain ⟨hz1, hz2⟩ := h1 hz
      have hnj : gf L j ≠ [] := fun e => hz (by rw [e]; rfl)
      rcases Nat.lt_or_ge i j with h2 | h2
      · have := hinc i j h2 hjl hn' hnj; omega
      · have := hinc j i (by omega) hi hnj hn'; omega
theorem KeepNot.of_outh {w w' : World} {g h n : Nat} (ho : Out g h w w') (h0 : n = 0 → h = g) (h1 : n ≠ 0 → h = g + 1) (hb : n ≠ 0 → ∃ cs, w.heap[g]? = some (.cells cs 3 (0, 0))) : KeepNot 3 w w' := fun b c t hc hne => by
  refine box_out hc ho ?_
  by_cases hn : n = 0
  · have := h0 hn; omega
  · have := h1 hn
    obtain ⟨cs, e⟩ := hb hn
    have : b ≠ g := fun e' => by
      subst e'
      rw [hc] at e
      simp at e
      exact hne e.2
    omega
theorem own_read {w : World} {B n c : Nat} {y : Option Addr} {L : List (List Int)} {ks : Nat → Option Addr × Nat} (h : w.ownsRow B 44 1 (.slice y n c) n (fvs L ks)) (hn : L.length = n) {j : Nat} (hj : j < n) : ∃ b, y = some ⟨b, 0, none⟩ ∧ w.cell? ⟨b, j, none⟩ = some (.slice (ks j).1 (gf L j).length (ks j).2) := by
  rcases h.2 with ⟨e, h0⟩ | ⟨g, cap, cur, e, hb, hg, hc, hm, hcs, ht⟩
  · omega
  · simp only [Value.slice.injEq, true_and] at e
    have hk : (fvs L ks)[j]? = some (.slice (ks j).1 (gf L j).length (ks j).2) := by
      unfold fvs
      rw [List.getElem?_map, List.getElem?_range (by omega)]
      rfl
    rw [← ht, List.getElem?_take, if_pos (by omega)] at hk
    exact ⟨g, e.1, cell_of_block hg (by simpa using hk)⟩
end Go.Proofs.Ytfphffbclpmobaa
