import Derived.Test.YtfphffbclpmobaaS0
import Derived.Test.YtfphffbclpmobaaP4
import Derived.Test.YtfphffbclpmobaaM4
import Derived.Test.YtfphffbclpmobaaF2
import Derived.Laws.EntriesVeiled
/- The library's sort, at rows of pieces, by the places that a map tells. -/
namespace Go.Proofs.Ytfphffbclpmobaa
open Go.ChangeShapes Go.WideShapes Go.ChangeAt Go.RowKit Go.Maps Go.WideMaps Go.Shelf Go.Lib Go.Sort
set_option linter.unusedVariables false
open Hd

attribute [local go_sem] Oper.semAt_some

/-- A world with more draws, and blocks laid behind it. -/
def Gr (w w' : World) : Prop := ∃ q os, w' = Go.Sort.grow (w.drewN q) os
theorem Gr.refl (w : World) : Gr w w := ⟨0, #[], by rw [Go.Sort.grow_empty]; rfl⟩
theorem Gr.trans {a b c : World} (h : Gr a b) (k : Gr b c) : Gr a c := by
  obtain ⟨q, os, rfl⟩ := h
  obtain ⟨q', os', rfl⟩ := k
  exact ⟨q + q', os ++ os', by show Go.Sort.grow (Go.Sort.grow ((a.drewN q).drewN q') os) os' = _; rw [Go.Sort.grow_grow, World.drewN_drewN]⟩
theorem Gr.alloc {a b : World} (h : Gr a b) (o : Obj) : Gr a (b.alloc o) := h.trans ⟨0, #[o], by rw [Go.Sort.alloc_eq_grow]; rfl⟩
/-- Ahead, behind, or neither. -/
def cmpI (x y : Int) : Int := if x < y then -1 else if y < x then 1 else 0
theorem Compare_any (x y : Int) (w : World) : Calls Try.prog 48 #[.int .i64 x, .int .i64 y] w fun e w' => e = .returned (.int .i64 (cmpI x y)) ∧ w' = w := by
  unfold cmpI
  have hx : (x != x) = false := by simp
  have hy : (y != y) = false := by simp
  go_enter Try.func48, Try.ntmps48
  go_wp2
  all_goals
    go_ret
    refine ⟨?_, rfl⟩
    simp_all <;> omega
theorem field0 (a b : Int) (W : World) : (Instr.field 71 (.agg #[.int .i64 a, .int .i64 b]) 0).run Try.prog W = .ok (.int .i64 a) W := by kernel_rfl
set_option maxRecDepth 20000 in
theorem place_any (ob M n N : Nat) (g : SG) (yv : Value) (x y : En) (w : World) (hob : w.heap[ob]? = some (.cells #[.map (some M), yv] 52 (0, 0))) (hG : GM w M n g N) (hx : g x.tx = some (x.pl, x.us)) (hy : g y.tx = some (y.pl, y.us)) (hsx : x.tx.size ≤ 24) (hsy : y.tx.size ≤ 24) :
    Calls Try.prog 47 #[.agg #[.string x.tx, .int .i64 x.us], .agg #[.string y.tx, .int .i64 y.us], .pointer (some ⟨ob, 0, none⟩)] w fun e w' => e = .returned (.int .i64 (cmpI x.pl y.pl)) ∧ Gr w w' := by
  obtain ⟨s, hs⟩ : ∃ s, w.heap.size = s := ⟨_, rfl⟩
  obtain ⟨W0, hW0⟩ : ∃ W0, (w.alloc (.cells #[.string x.tx, .int .i64 x.us] 46)).alloc (.cells #[.string y.tx, .int .i64 y.us] 46) = W0 := ⟨_, rfl⟩
  have hgr : Gr w W0 := by subst hW0; exact ((Gr.refl w).alloc _).alloc _
  have hb0 : Below w.heap.size w W0 := by subst hW0; exact ba2 _ _ _
  obtain ⟨B1, B2⟩ : W0.heap[s]? = some (.cells #[.string x.tx, .int .i64 x.us] 46 (0, 0)) ∧ W0.heap[s + 1]? = some (.cells #[.string y.tx, .int .i64 y.us] 46 (0, 0)) := by subst hW0 hs; exact al2 _ _ _
  obtain ⟨i0, -, -, -⟩ := box2_cells B1
  obtain ⟨j0, -, -, -⟩ := box2_cells B2
  obtain ⟨o0, -, -, -⟩ := box2_cells (box_on hob hb0)
  have l1 := (hG.below hb0).look x.tx (by unfold maxLen; omega)
  have l2 := (hG.below hb0).look y.tx (by unfold maxLen; omega)
  rw [hx] at l1
  rw [hy] at l2
  simp only [sv] at l1 l2
  have f1 := field0 x.pl x.us W0
  have f2 := field0 y.pl y.us W0
  clear hob hG hx hy hsx hsy B1 B2 hb0
  go_enter Try.func47, Try.ntmps47
  go_wp2_with (go_at_call 48; refine (Compare_any _ _ _).mono ?_; rintro e w' ⟨rfl, rfl⟩)
  go_ret
  exact ⟨rfl, hgr⟩
/-- An entry's piece, as cells. -/
def encE {E : List En} (e : {e // e ∈ E}) : List Value := [.string e.1.tx, .int .i64 e.1.us]
theorem encE_len {E : List En} (e : {e // e ∈ E}) : (encE e).length = 2 := rfl
theorem encE_one {E : List En} (e : {e // e ∈ E}) : ∀ v ∈ encE e, v.oneCell' = true := fun v hv => by
  simp [encE] at hv
  rcases hv with rfl | rfl <;> rfl
/-- By place. -/
def cfE {E : List En} (x y : {e // e ∈ E}) : Int := cmpI x.1.pl y.1.pl
theorem ltOf_E {E : List En} (x y : {e // e ∈ E}) : ltOf cfE x y = decide (x.1.pl < y.1.pl) := by
  unfold ltOf cfE cmpI
  by_cases h1 : x.1.pl < y.1.pl
  · simp [h1]
  · by_cases h2 : y.1.pl < x.1.pl <;> simp [h1, h2]
theorem swoE {E : List En} : SWO (ltOf (cfE (E := E))) where
  irrefl x := by rw [ltOf_E]; simp
  trans x y z h1 h2 := by rw [ltOf_E] at *; simp at *; omega
  ntrans x y z h1 h2 := by rw [ltOf_E] at *; simp at *; omega
theorem sort_out {E : List En} [Inhabited {e // e ∈ E}] (w : World) (blk off m : Nat) (d : Array {e // e ∈ E}) (os : Array Obj) : Out blk (blk + 1) w (sortWorldK encE 2 w blk off m d os) := by
  refine ⟨rfl, rfl, rfl, ?_, fun k hk hd => ?_⟩
  · simp [sortWorldK, Go.Sort.grow, putRowK, putRow, mapBlock, Go.Sort.ahead]
  · simp only [sortWorldK, Go.Sort.grow, putRowK, putRow, mapBlock, Go.Sort.ahead]
    rw [Array.getElem?_append_left (by simpa using hk), Array.getElem?_modify, if_neg (by omega)]
theorem sort_block {E : List En} [Inhabited {e // e ∈ E}] (w : World) (blk off m : Nat) (d : Array {e // e ∈ E}) (os : Array Obj) (c : Array Value) (hB : w.heap[blk]? = some (.cells c 46 (0, 0))) : ∃ c', (sortWorldK encE 2 w blk off m d os).heap[blk]? = some (.cells c' 46 (0, 0)) := by
  have hlt := box_lt hB
  simp only [sortWorldK, Go.Sort.grow, putRowK, putRow, mapBlock, Go.Sort.ahead]
  rw [Array.getElem?_append_left (by simpa using hlt), Array.getElem?_modify, if_pos rfl, hB]
  exact ⟨_, rfl⟩
theorem cmpLaysE {E : List En} [Inhabited {e // e ∈ E}] (g : SG) (hE : Ens g E) (hsz : ∀ e, e ∈ E → e.tx.size ≤ 24) (ob M n N : Nat) (yv : Value) (blk off size : Nat) (w : World) (hob : w.heap[ob]? = some (.cells #[.map (some M), yv] 52 (0, 0))) (hG : GM w M n g N) (h1 : ob ≠ blk) (h2 : M ≠ blk) :
    CmpLays Try.prog 47 #[.pointer (some ⟨ob, 0, none⟩)] (encE (E := E)) 2 cfE blk off size w := fun m os dk hs x y => by
  have ho := sort_out w blk off m dk os
  have h := place_any ob M n N g yv x.1 y.1 (sortWorldK encE 2 w blk off m dk os) (box_out hob ho (by omega)) (hG.out ho (by omega)) (hE.at_ x.2) (hE.at_ y.2) (hsz _ x.2) (hsz _ y.2)
  exact h.mono fun e w' ⟨he, q, os', hw⟩ => ⟨he, q, os', hw⟩
theorem getE {E : List En} [Inhabited {e // e ∈ E}] (d : List {e // e ∈ E}) (i : Nat) (h : i < d.length) : d.toArray[i]! = d[i] := by simp [h]
theorem merge_so {E : List En} (hR : Ris E) {l : List {e // e ∈ E}} (h : l.Nodup) (hp : ∀ x y : {e // e ∈ E}, x.1.pl = y.1.pl → x = y) : (l.mergeSort fun x y => !(ltOf cfE) y x).Pairwise fun x y => x.1.pl < y.1.pl := by
  have h1 := List.pairwise_mergeSort (le := fun x y : {e // e ∈ E} => !(ltOf cfE) y x) (fun a b c q1 q2 => by
    simp only [Bool.not_eq_true'] at *
    exact swoE.ntrans c b a q2 q1) (fun a b => by
    simp only [ltOf_E]
    by_cases h : b.1.pl < a.1.pl
    · have : ¬ a.1.pl < b.1.pl := by omega
      simp [h, this]
    · simp [h]) l
  have h2 : (l.mergeSort fun x y => !(ltOf cfE) y x).Nodup := (List.mergeSort_perm l _).nodup_iff.2 h
  refine List.Pairwise.imp₂ (fun {x y} q1 q2 => ?_) h1 h2
  simp only [ltOf_E, Bool.not_eq_true', decide_eq_false_iff_not] at q1
  have : x.1.pl ≠ y.1.pl := fun e => q2 (hp x y e)
  omega
theorem Ris.pl_inj {E : List En} (hR : Ris E) : ∀ x y : {e // e ∈ E}, x.1.pl = y.1.pl → x = y := by
  have key : ∀ l : List En, Ris l → ∀ x y, x ∈ l → y ∈ l → x.pl = y.pl → x = y := by
    intro l
    induction l with
    | nil => intro _ x y hx; simp at hx
    | cons z l ih =>
      intro h x y hx hy e
      rw [Ris.cons] at h
      rcases List.mem_cons.1 hx with e1 | hx2
      · rcases List.mem_cons.1 hy with e2 | hy2
        · rw [e1, e2]
        · subst e1; have := h.1 y hy2; omega
      · rcases List.mem_cons.1 hy with e2 | hy2
        · subst e2; have := h.1 x hx2; omega
        · exact ih h.2 x y hx2 hy2 e
  exact fun x y e => Subtype.ext (key E hR x.1 y.1 x.2 y.2 e)
set_option maxHeartbeats 1000000 in
theorem sortK_any (blk cap ob M n N : Nat) (g : SG) (E : List En) (yv : Value) (B : List Nm) (w : World) (hE : Ens g E) (hsz : ∀ e, e ∈ E → e.tx.size ≤ 24) (hnd : B.Nodup) (hm : ∀ x, x ∈ B ↔ x ∈ E.map toNm) (hne : E ≠ []) (hn : B.length ≤ 1048576) (c : Array Value)
    (hB : w.heap[blk]? = some (.cells c 46 (0, 0))) (hc : namesN B.length B c) (hob : w.heap[ob]? = some (.cells #[.map (some M), yv] 52 (0, 0))) (hG : GM w M n g N) (h1 : ob ≠ blk) (h2 : M ≠ blk) :
    Calls Try.prog 46 #[.slice (some ⟨blk, 0, none⟩) B.length cap, .func (.func 47) #[] #[.pointer (some ⟨ob, 0, none⟩)]] w fun e w' => e = .returned (.tuple #[]) ∧ Out blk (blk + 1) w w' ∧ (∃ c', w'.heap[blk]? = some (.cells c' 46 (0, 0)) ∧ namesN E.length (E.map toNm) c') ∧ B.length = E.length := by
  have eg : ∀ args w, (callFunc 47 args).run Try.prog w = .ok (.enter 47 args) w := enters_of Try.func47 (by kernel_rfl) rfl
  haveI : Inhabited {e // e ∈ E} := ⟨⟨E.head hne, List.head_mem hne⟩⟩
  obtain ⟨L, hL⟩ := subs_ex B fun x hx => (hm x).1 hx
  have hLl : L.length = B.length := by rw [← hL]; simp
  have hLg : ∀ i (h : i < B.length), gm B i = toNm (L[i]'(by omega)).1 := fun i h => by
    subst hL
    simp at h
    simp [gm, h]
  have hLn : L.Nodup := by
    rw [← hL, List.Nodup, List.pairwise_map] at hnd
    exact hnd.imp fun h e => h (by rw [e])
  have hLm : ∀ e, e ∈ E ↔ ∃ h : e ∈ E, (⟨e, h⟩ : {e // e ∈ E}) ∈ L := fun e => ⟨fun h => by
    refine ⟨h, ?_⟩
    have hb := (hm (toNm e)).2 (List.mem_map.2 ⟨e, h, rfl⟩)
    rw [← hL] at hb
    obtain ⟨f, hf, hfe⟩ := List.mem_map.1 hb
    have : f = ⟨e, h⟩ := Subtype.ext (hE.one f.2 h (congrArg Nm.nm hfe))
    rw [← this]
    exact hf, fun ⟨h, _⟩ => h⟩
  have hH : HoldsK (encE (E := E)) 2 w blk 0 L.toArray := by
    intro j hj
    rw [size_flatK] at hj
    have hj' : j < L.length * 2 := by simpa using hj
    have hg := get_flatK (encE (E := E)) 2 L.toArray j hj
    rw [show (id (flatK (encE (E := E)) 2 L.toArray)[j]! : Value) = (flatK (encE (E := E)) 2 L.toArray)[j]! from rfl, hg, getE _ _ (by omega)]
    have h := hc (j / 2) (by omega)
    rw [hLg _ (by omega)] at h
    refine ⟨?_, ?_⟩
    · rw [Nat.zero_add]
      rcases Nat.mod_two_eq_zero_or_one j with q | q
      · have ej : j / 2 * 2 = j := by omega
        rw [ej] at h
        rw [q]
        exact cell_of_block hB h.1
      · have ej : j / 2 * 2 + 1 = j := by omega
        rw [ej] at h
        rw [q]
        exact cell_of_block hB h.2
    · exact free_of_block hB
  have h := AnyQ.slices_SortFunc_total Try.sortL 2 Try.isAgg46 Try.sizeOf46 (encE (E := E)) encE_len encE_one cfE swoE 47 #[.pointer (some ⟨ob, 0, none⟩)] blk 0 cap L.toArray w eg (cmpLaysE g hE hsz ob M n N yv blk 0 _ w hob hG h1 h2) hH (box_lt hB) (by simp; omega) (fun x y h1 h2 => by rw [ltOf_E] at h1 h2; simp at h1 h2; exact hE.1.pl_inj x y (by omega))
  change Calls Try.prog 46 _ _ _ at h
  rw [show L.toArray.size = B.length by simp [hLl]] at h
  refine h.mono ?_
  rintro e w' ⟨rfl, n, os, rfl⟩
  obtain ⟨S, hS⟩ : ∃ S, (L.mergeSort fun x y => !(ltOf cfE) y x) = S := ⟨_, rfl⟩
  have hSo : S.Pairwise fun x y => x.1.pl < y.1.pl := hS ▸ merge_so hE.1 hLn hE.1.pl_inj
  have hSl : S.length = L.length := by rw [← hS, List.length_mergeSort]
  have hSm : ∀ a, a ∈ S ↔ a ∈ L := fun a => by rw [← hS]; exact (List.mergeSort_perm L _).mem_iff
  have hSE : S.map (·.1) = E := by
    refine Ris.uniq ?_ hE.1 fun x => ?_
    · rw [Ris, List.pairwise_map]
      exact hSo
    · constructor
      · intro hx
        obtain ⟨a, ha, rfl⟩ := List.mem_map.1 hx
        exact a.2
      · intro hx
        obtain ⟨h, hl⟩ := (hLm x).1 hx
        exact List.mem_map.2 ⟨_, (hSm _).2 hl, rfl⟩
  have hml : E.length = B.length := by rw [← hSE]; simp [hSl, hLl]
  refine ⟨rfl, sort_out _ _ _ _ _ _, ?_, hml.symm⟩
  rw [show L.toArray.toList = L from rfl, hS]
  have hH' := holdsK_sortWorldK_c (encE (E := E)) 2 w blk 0 L.toArray S.toArray n os hH (box_lt hB) (by simp [hSl])
  obtain ⟨c', hB'⟩ := sort_block w blk 0 n S.toArray os c hB
  refine ⟨c', hB', fun i hi => ?_⟩
  have hi' : i < S.length := by omega
  have h0 := (hH'.cell (i := i) (c := 0) (by simpa using hi') (by omega)).1
  have h1 := (hH'.cell (i := i) (c := 1) (by simpa using hi') (by omega)).1
  rw [getE _ _ hi'] at h0 h1
  have eg : gm (E.map toNm) i = toNm S[i].1 := by
    have : E[i] = S[i].1 := by simp only [← hSE, List.getElem_map]
    simp [gm, hi, this]
  rw [eg]
  simp only [Nat.zero_add, Nat.add_zero] at h0 h1
  simp only [World.cell?, hB'] at h0 h1
  exact ⟨by simpa [encE, toNm] using h0, by simpa [encE, toNm] using h1⟩
end Go.Proofs.Ytfphffbclpmobaa
