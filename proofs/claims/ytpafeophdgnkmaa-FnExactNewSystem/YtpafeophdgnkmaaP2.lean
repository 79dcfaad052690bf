import Derived.Test.YtpafeophdgnkmaaP1
/- Free room, of no program: a list kept in order, what is cut out of one extent, what is given back, and what is near. -/
namespace Go.Proofs.Ytpafeophdgnkmaa.Room
set_option linter.unusedVariables false

/-- How many are ahead of x. -/
def lb (lt : Ex → Ex → Bool) (x : Ex) : List Ex → Nat
  | [] => 0
  | y :: l => bif lt y x then lb lt x l + 1 else 0
theorem lb_le {lt : Ex → Ex → Bool} {x : Ex} : ∀ {l : List Ex}, lb lt x l ≤ l.length
  | [] => Nat.le_refl _
  | y :: l => by
    have := lb_le (lt := lt) (x := x) (l := l)
    unfold lb
    cases lt y x <;> simp <;> omega
/-- What a search by halves finds. -/
theorem lb_of {lt : Ex → Ex → Bool} {x : Ex} : ∀ {l : List Ex} {i : Nat}, i ≤ l.length → (∀ j (h : j < l.length), j < i → lt l[j] x = true) → (∀ j (h : j < l.length), i ≤ j → lt l[j] x = false) → lb lt x l = i
  | [], i, h, _, _ => by simp at h; subst h; rfl
  | y :: l, 0, _, _, h => by
    have := h 0 (by simp) (Nat.le_refl _)
    simp at this
    simp [lb, this]
  | y :: l, i + 1, h0, h1, h2 => by
    have e := h1 0 (by simp) (by omega)
    simp at e
    have := lb_of (lt := lt) (x := x) (l := l) (i := i) (by simpa using h0) (fun j h k => by have := h1 (j + 1) (by simpa using h) (by omega); simpa using this) (fun j h k => by have := h2 (j + 1) (by simpa using h) (by omega); simpa using this)
    simp [lb, e, this]
def wth (lt : Ex → Ex → Bool) (l : List Ex) (x : Ex) : List Ex := l.take (lb lt x l) ++ x :: l.drop (lb lt x l)
def wout (lt : Ex → Ex → Bool) (l : List Ex) (x : Ex) : List Ex := l.take (lb lt x l) ++ l.drop (lb lt x l + 1)
theorem mem_wth {lt : Ex → Ex → Bool} {l : List Ex} {x z : Ex} : z ∈ wth lt l x ↔ z = x ∨ z ∈ l := by
  have e : z ∈ l ↔ z ∈ l.take (lb lt x l) ∨ z ∈ l.drop (lb lt x l) := by rw [← List.mem_append, List.take_append_drop]
  rw [wth, List.mem_append, List.mem_cons, e]
  grind
theorem len_wth {lt : Ex → Ex → Bool} {l : List Ex} {x : Ex} : (wth lt l x).length = l.length + 1 := by
  have := lb_le (lt := lt) (x := x) (l := l)
  simp [wth]; omega
/-- Apart in an order. -/
def Ap (lt : Ex → Ex → Bool) (x y : Ex) : Prop := lt x y = true ∨ lt y x = true
theorem wth_cons {lt : Ex → Ex → Bool} {l : List Ex} {x y : Ex} : wth lt (y :: l) x = bif lt y x then y :: wth lt l x else x :: y :: l := by
  have e : lb lt x (y :: l) = bif lt y x then lb lt x l + 1 else 0 := rfl
  unfold wth
  rw [e]
  cases lt y x <;> simp
theorem so_wth {lt : Ex → Ex → Bool} (o : Ord lt) {x : Ex} : ∀ {l : List Ex}, So lt l → (∀ y, y ∈ l → Ap lt x y) → So lt (wth lt l x)
  | [], _, _ => by simp [wth, So, lb]
  | y :: l, h, ha => by
    rw [So.cons] at h
    rw [wth_cons]
    cases e : lt y x
    · have e' : lt x y = true := (ha y (by simp)).resolve_right (by simp [e])
      refine So.cons.2 ⟨fun z hz => ?_, So.cons.2 h⟩
      rcases List.mem_cons.1 hz with rfl | hz
      · exact e'
      · exact o.tr x y z e' (h.1 z hz)
    · refine So.cons.2 ⟨fun z hz => ?_, so_wth o h.2 fun y' hy => ha y' (by simp [hy])⟩
      rcases mem_wth.1 hz with rfl | hz
      · exact e
      · exact h.1 z hz
theorem wout_cons {lt : Ex → Ex → Bool} {l : List Ex} {x y : Ex} : wout lt (y :: l) x = bif lt y x then y :: wout lt l x else l := by
  have e : lb lt x (y :: l) = bif lt y x then lb lt x l + 1 else 0 := rfl
  unfold wout
  rw [e]
  cases lt y x <;> simp
theorem so_wout {lt : Ex → Ex → Bool} (o : Ord lt) {x : Ex} : ∀ {l : List Ex}, So lt l → x ∈ l → So lt (wout lt l x) ∧ (∀ z, z ∈ wout lt l x ↔ z ∈ l ∧ z ≠ x) ∧ (wout lt l x).length + 1 = l.length
  | [], _, hx => absurd hx (by simp)
  | y :: l, h, hx => by
    rw [So.cons] at h
    rw [wout_cons]
    cases e : lt y x
    · have e' : x = y := by
        rcases List.mem_cons.1 hx with rfl | hx
        · rfl
        · have := h.1 x hx
          rw [e] at this
          cases this
      subst e'
      refine ⟨h.2, fun z => ?_, by simp⟩
      have n1 : z ∈ l → z ≠ x := fun hz' e => by subst e; have := h.1 z hz'; rw [o.irr] at this; cases this
      simp only [cond_false, List.mem_cons]
      exact ⟨fun a => ⟨.inr a, n1 a⟩, fun a => a.1.resolve_left a.2⟩
    · have hne : y ≠ x := fun q => by subst q; rw [o.irr] at e; cases e
      have hx' : x ∈ l := by simpa [Ne.symm hne] using hx
      obtain ⟨a, b, c⟩ := so_wout o h.2 hx'
      refine ⟨So.cons.2 ⟨fun z hz => h.1 z ((b z).1 hz).1, a⟩, fun z => ?_, by simp; omega⟩
      simp only [cond_true, List.mem_cons, b z]
      grind
def outs (lt : Ex → Ex → Bool) (l gone : List Ex) : List Ex := gone.foldl (wout lt) l
def withs (lt : Ex → Ex → Bool) (l come : List Ex) : List Ex := come.foldl (wth lt) l
/-- Some out, others in. -/
def exch (lt : Ex → Ex → Bool) (l gone come : List Ex) : List Ex := withs lt (outs lt l gone) come
theorem so_outs {lt : Ex → Ex → Bool} (o : Ord lt) : ∀ {gone l : List Ex}, So lt l → (∀ x, x ∈ gone → x ∈ l) → gone.Nodup → So lt (outs lt l gone) ∧ (∀ z, z ∈ outs lt l gone ↔ z ∈ l ∧ z ∉ gone) ∧ (outs lt l gone).length + gone.length = l.length
  | [], l, h, _, _ => ⟨h, by simp [outs], rfl⟩
  | g :: gone, l, h, hg, hn => by
    have hn' := List.nodup_cons.1 hn
    obtain ⟨a, b, c⟩ := so_wout o h (hg g (by simp))
    obtain ⟨a', b', c'⟩ := so_outs o (gone := gone) a (fun x hx => (b x).2 ⟨hg x (by simp [hx]), fun e => hn'.1 (e ▸ hx)⟩) hn'.2
    refine ⟨a', fun z => ?_, ?_⟩
    · have := b' z
      simp only [outs, List.foldl_cons] at this ⊢
      rw [this, b z]
      grind
    · simp only [outs, List.foldl_cons, List.length_cons] at c' ⊢
      omega
theorem so_withs {lt : Ex → Ex → Bool} (o : Ord lt) : ∀ {come l : List Ex}, So lt l → (∀ x, x ∈ come → ∀ y, y ∈ l → Ap lt x y) → come.Pairwise (fun x y => Ap lt y x) → So lt (withs lt l come) ∧ (∀ z, z ∈ withs lt l come ↔ z ∈ l ∨ z ∈ come) ∧ (withs lt l come).length = l.length + come.length
  | [], l, h, _, _ => ⟨h, by simp [withs], rfl⟩
  | g :: come, l, h, hg, hn => by
    have hn' := List.pairwise_cons.1 hn
    have a := so_wth o h (x := g) (hg g (by simp))
    obtain ⟨a', b', c'⟩ := so_withs o (come := come) a (fun x hx y hy => by
      rcases mem_wth.1 hy with rfl | hy
      · exact hn'.1 x hx
      · exact hg x (by simp [hx]) y hy) hn'.2
    refine ⟨a', fun z => ?_, ?_⟩
    · have := b' z
      simp only [withs, List.foldl_cons] at this ⊢
      rw [this, mem_wth]
      grind
    · simp only [withs, List.foldl_cons, List.length_cons, len_wth] at c' ⊢
      omega
theorem apS {x y : Ex} (h : x.1 ≠ y.1) : Ap ltS x y := by
  unfold Ap
  rw [ltS_iff, ltS_iff]
  omega
theorem apP {x y : Ex} (h : x.1 ≠ y.1) : Ap ltP x y := by
  unfold Ap
  rw [ltP_iff, ltP_iff]
  omega
/-- Both lists, kept in step, are those of the extents that are left. -/
theorem exch_eq {b : Int} {l gone come m : List Ex} (h : Pl b l) (g : ∀ x, x ∈ gone → x ∈ l) (gn : gone.Nodup) (c : ∀ x, x ∈ come → ∀ y, y ∈ l → y ∉ gone → x.1 ≠ y.1) (cn : come.Pairwise fun x y => x.1 ≠ y.1) (hm : Pl b m) (mem : ∀ z, z ∈ m ↔ (z ∈ l ∧ z ∉ gone) ∨ z ∈ come) :
    exch ltP l gone come = m ∧ exch ltS (srt l) gone come = srt m ∧ m.length + gone.length = l.length + come.length := by
  obtain ⟨a1, b1, c1⟩ := so_outs ordP h.so g gn
  obtain ⟨a2, b2, c2⟩ := so_withs ordP (come := come) a1 (fun x hx y hy => apP (c x hx y ((b1 y).1 hy).1 ((b1 y).1 hy).2)) (cn.imp fun q => apP (Ne.symm q))
  obtain ⟨d1, e1, f1⟩ := so_outs ordS (gone := gone) h.so_srt (fun x hx => mem_srt.2 (g x hx)) gn
  obtain ⟨d2, e2, f2⟩ := so_withs ordS (come := come) d1 (fun x hx y hy => apS (c x hx y (mem_srt.1 ((e1 y).1 hy).1) ((e1 y).1 hy).2)) (cn.imp fun q => apS (Ne.symm q))
  have e : exch ltP l gone come = m := uniq ordP a2 hm.so fun z => by unfold exch; rw [b2, b1, mem]
  refine ⟨e, uniq ordS d2 hm.so_srt fun z => by unfold exch; rw [e2, e1, mem_srt, mem_srt, mem], ?_⟩
  rw [← e]
  unfold exch
  omega

/-- What is left of an extent of which x is taken. -/
def pcs (o x : Ex) : List Ex := (if o.1 = x.1 then [] else [(o.1, x.1 - o.1)]) ++ (if fin x = fin o then [] else [(fin x, fin o - fin x)])
/-- It holds x. -/
def hold (x o : Ex) : Bool := decide (o.1 ≤ x.1) && decide (fin x ≤ fin o)
theorem hold_iff {x o : Ex} : hold x o = true ↔ o.1 ≤ x.1 ∧ fin x ≤ fin o := by simp [hold]
theorem mem_pcs {o x p : Ex} (ho : o.1 ≤ x.1 ∧ fin x ≤ fin o) (hx : 1 ≤ x.2) (h : p ∈ pcs o x) : o.1 ≤ p.1 ∧ 1 ≤ p.2 ∧ fin p ≤ fin o ∧ (fin p = x.1 ∨ p.1 = fin x) := by
  unfold pcs at h
  simp only [List.mem_append] at h
  unfold fin at *
  rcases h with h | h <;> split at h <;> simp at h <;> subst h <;> simp <;> omega
theorem cut_pl {b : Int} {A B : List Ex} {o x : Ex} (h : Pl b (A ++ o :: B)) (hx : 1 ≤ x.2) (ho : o.1 ≤ x.1 ∧ fin x ≤ fin o) : Pl b (A ++ (pcs o x ++ B)) := by
  have h1 := List.pairwise_append.1 h.rise
  have h2 := List.pairwise_cons.1 h1.2.1
  have io := h.ins o (by simp)
  refine ⟨fun p hp => ?_, ?_⟩
  · rcases List.mem_append.1 hp with hp | hp
    · exact h.ins p (by simp [hp])
    · rcases List.mem_append.1 hp with hp | hp
      · have := mem_pcs ho hx hp
        omega
      · exact h.ins p (by simp [hp])
  · refine List.pairwise_append.2 ⟨h1.1, List.pairwise_append.2 ⟨?_, h2.2, fun p hp y hy => ?_⟩, fun a ha p hp => ?_⟩
    · unfold pcs
      unfold fin at *
      split <;> split <;> simp
      omega
    · have := mem_pcs ho hx hp
      have := h2.1 y hy
      omega
    · rcases List.mem_append.1 hp with hp | hp
      · have := mem_pcs ho hx hp
        have := h1.2.2 a ha o (by simp)
        omega
      · exact h1.2.2 a ha p (by simp [hp])
/-- Taken out of one extent: both lists in step. -/
theorem cut_exch {b : Int} {A B : List Ex} {o x : Ex} (h : Pl b (A ++ o :: B)) (hx : 1 ≤ x.2) (ho : o.1 ≤ x.1 ∧ fin x ≤ fin o) :
    exch ltP (A ++ o :: B) [o] (pcs o x) = A ++ (pcs o x ++ B) ∧ exch ltS (srt (A ++ o :: B)) [o] (pcs o x) = srt (A ++ (pcs o x ++ B)) ∧ (A ++ (pcs o x ++ B)).length + 1 = (A ++ o :: B).length + (pcs o x).length := by
  have h1 := List.pairwise_append.1 h.rise
  have h2 := List.pairwise_cons.1 h1.2.1
  have io := h.ins o (by simp)
  have nA : ∀ y, y ∈ A → fin y < o.1 ∧ 1 ≤ y.2 ∧ y ≠ o := fun y hy => by
    have q1 := h1.2.2 y hy o (by simp)
    have q2 := h.ins y (by simp [hy])
    refine ⟨q1, q2.2.1, fun e => ?_⟩
    subst e
    unfold fin at q1
    omega
  have nB : ∀ y, y ∈ B → fin o < y.1 ∧ y ≠ o := fun y hy => by
    have q1 := h2.1 y hy
    refine ⟨q1, fun e => ?_⟩
    subst e
    unfold fin at q1
    omega
  refine exch_eq h (by simp) (by simp) (fun p hp y hy hyo => ?_) ?_ (cut_pl h hx ho) fun z => ?_
  · have q := mem_pcs ho hx hp
    simp at hyo
    rcases List.mem_append.1 hy with hy | hy
    · have := nA y hy
      unfold fin at *
      omega
    · have := nB y ((List.mem_cons.1 hy).resolve_left hyo)
      unfold fin at *
      omega
  · unfold pcs
    unfold fin at *
    split <;> split <;> simp
    omega
  · simp only [List.mem_append, List.mem_cons, List.not_mem_nil, or_false]
    have a1 := nA z
    have a2 := nB z
    constructor
    · rintro (q | q | q)
      · exact .inl ⟨.inl q, (a1 q).2.2⟩
      · exact .inr q
      · exact .inl ⟨.inr (.inr q), (a2 q).2⟩
    · rintro (⟨q | q | q, k⟩ | q)
      · exact .inl q
      · exact absurd q k
      · exact .inr (.inr q)
      · exact .inr (.inl q)

/-- What the model does with the extents one by one: the list at the end, none where x overlaps one. -/
def gvS : Ex → Bool → List Ex → List Ex → Option (List Ex)
  | x, put, acc, [] => some (bif put then acc else acc ++ [x])
  | x, put, acc, o :: l =>
    if fin o < x.1 then gvS x put (acc ++ [o]) l
    else if fin x < o.1 then gvS x true ((bif put then acc else acc ++ [x]) ++ [o]) l
    else if fin o = x.1 then gvS (o.1, o.2 + x.2) put acc l
    else if o.1 = fin x then gvS (x.1, x.2 + o.2) put acc l
    else none
/-- What the program does: from where, to where, what is touched. -/
def gvI (x : Ex) : Int → Int → List Ex → List Ex → Option (Int × Int × List Ex)
  | f, t, g, [] => some (f, t, g)
  | f, t, g, y :: l =>
    if fin y = x.1 then gvI x y.1 t (g ++ [y]) l
    else if y.1 = fin x then gvI x f (fin y) (g ++ [y]) l
    else if y.1 < fin x ∧ x.1 < fin y then none
    else gvI x f t g l
def gv (x : Ex) : List Ex → Option (List Ex)
  | [] => some [x]
  | o :: l =>
    if fin o < x.1 then (gv x l).map (o :: ·)
    else if fin x < o.1 then some (x :: o :: l)
    else if fin o = x.1 then gv (o.1, o.2 + x.2) l
    else if o.1 = fin x then some ((x.1, x.2 + o.2) :: l)
    else none
theorem gvS_put {x : Ex} : ∀ {l acc : List Ex}, (∀ o, o ∈ l → fin x < o.1 ∧ 1 ≤ o.2) → 1 ≤ x.2 → gvS x true acc l = some (acc ++ l)
  | [], acc, _, _ => by simp [gvS]
  | o :: l, acc, h, hx => by
    have h1 := h o (by simp)
    unfold gvS
    rw [if_neg (by unfold fin at *; omega), if_pos h1.1, gvS_put (fun o ho => h o (by simp [ho])) hx]
    simp
theorem Pl.tl {b : Int} {o : Ex} {l : List Ex} (h : Pl b (o :: l)) : Pl b l := ⟨fun x hx => h.ins x (by simp [hx]), (List.pairwise_cons.1 h.rise).2⟩
theorem gvS_gv {b : Int} : ∀ {l acc : List Ex} {x : Ex}, Pl b l → 1 ≤ x.2 → gvS x false acc l = (gv x l).map (acc ++ ·)
  | [], acc, x, _, _ => by simp [gvS, gv]
  | o :: l, acc, x, h, hx => by
    have ht := h.tl
    have io := h.ins o (by simp)
    have ro := (List.pairwise_cons.1 h.rise).1
    unfold gvS gv
    split
    · rw [gvS_gv ht hx]
      cases gv x l <;> simp
    · split
      · rw [gvS_put (fun y hy => ⟨by have := ro y hy; unfold fin at *; omega, (h.ins y (by simp [hy])).2.1⟩) hx]
        simp
      · split
        · exact gvS_gv ht (by simp; omega)
        · split
          · rename_i q1 q2 q3 q4
            have hx' : 1 ≤ ((x.1, x.2 + o.2) : Ex).2 := by simp; omega
            rw [gvS_gv ht hx']
            cases l with
            | nil => simp [gv]
            | cons y l =>
              have := ro y (by simp)
              unfold gv
              rw [if_neg (by have := (h.ins y (by simp)).2.1; unfold fin at *; simp; omega), if_pos (by unfold fin at *; simp; omega)]
          · rfl
theorem gvI_far {x : Ex} : ∀ {l g : List Ex} {f t : Int}, (∀ y, y ∈ l → fin x < y.1 ∧ 1 ≤ y.2) → 1 ≤ x.2 → gvI x f t g l = some (f, t, g)
  | [], g, f, t, _, _ => rfl
  | y :: l, g, f, t, h, hx => by
    have h1 := h y (by simp)
    unfold gvI
    rw [if_neg (by unfold fin at *; omega), if_neg (by unfold fin at *; omega), if_neg (by unfold fin at *; omega)]
    exact gvI_far (fun o ho => h o (by simp [ho])) hx

/-- What is told of both. -/
structure Gv (b : Int) (x : Ex) (l m : List Ex) (f t : Int) (g : List Ex) : Prop where
  pl : Pl b m
  mem : ∀ z, z ∈ m ↔ (z ∈ l ∧ z ∉ g) ∨ z = (f, t - f)
  sub : ∀ z, z ∈ g → z ∈ l
  nd : g.Nodup
  ap : ∀ y, y ∈ l → y ∉ g → f ≠ y.1
  lo : f = x.1 ∨ ∃ y, y ∈ l ∧ f = y.1
theorem gv_both {b : Int} {x : Ex} (hx : 0 ≤ x.1 ∧ 1 ≤ x.2 ∧ fin x ≤ b) : ∀ {l : List Ex}, Pl b l →
    (gv x l = none ∧ gvI x x.1 (fin x) [] l = none) ∨ ∃ m f t g, gv x l = some m ∧ gvI x x.1 (fin x) [] l = some (f, t, g) ∧ Gv b x l m f t g
  | [], _ => .inr ⟨[x], x.1, fin x, [], rfl, rfl, ⟨fun z hz => by simp at hz; subst hz; exact hx, by simp⟩, fun z => by simp [fin, Int.add_comm x.1, Int.add_sub_cancel], by simp, by simp, by simp, .inl rfl⟩
  | o :: l, h => by
    have ht := h.tl
    have io := h.ins o (by simp)
    have ro := (List.pairwise_cons.1 h.rise).1
    have il := fun y hy => h.ins y (List.mem_cons_of_mem o hy)
    have ex : (x.1, fin x - x.1) = x := by unfold fin; exact Prod.ext rfl (by simp; omega)
    by_cases q1 : fin o < x.1
    · have e1 : gv x (o :: l) = (gv x l).map (o :: ·) := by conv => lhs; unfold gv; rw [if_pos q1]
      have e2 : gvI x x.1 (fin x) [] (o :: l) = gvI x x.1 (fin x) [] l := by
        conv => lhs; unfold gvI
        rw [if_neg (by unfold fin at *; omega), if_neg (by unfold fin at *; omega), if_neg (by unfold fin at *; omega)]
      rw [e1, e2]
      rcases gv_both hx ht with ⟨a1, a2⟩ | ⟨m, f, t, g, a1, a2, G⟩
      · exact .inl ⟨by rw [a1]; rfl, a2⟩
      · refine .inr ⟨o :: m, f, t, g, by rw [a1]; rfl, a2, ?_⟩
        have of : fin o < f := by
          rcases G.lo with q | ⟨y, hy, q⟩
          · omega
          · have := ro y hy
            omega
        have og : o ∉ g := fun hg => by
          have := ro o (G.sub o hg)
          unfold fin at this
          omega
        refine ⟨⟨fun z hz => ?_, List.pairwise_cons.2 ⟨fun z hz => ?_, G.pl.rise⟩⟩, fun z => ?_, fun z hz => by simp [G.sub z hz], G.nd, fun y hy hyg => ?_, ?_⟩
        · rcases List.mem_cons.1 hz with rfl | hz
          · exact io
          · exact G.pl.ins z hz
        · rcases (G.mem z).1 hz with ⟨hz, _⟩ | rfl
          · exact ro z hz
          · exact of
        · simp only [List.mem_cons, G.mem z]
          constructor
          · rintro (rfl | ⟨p, q⟩ | p)
            · exact .inl ⟨.inl rfl, og⟩
            · exact .inl ⟨.inr p, q⟩
            · exact .inr p
          · rintro (⟨rfl | p, q⟩ | p)
            · exact .inl rfl
            · exact .inr (.inl ⟨p, q⟩)
            · exact .inr (.inr p)
        · rcases List.mem_cons.1 hy with rfl | hy
          · unfold fin at of
            omega
          · exact G.ap y hy hyg
        · rcases G.lo with q | ⟨y, hy, q⟩
          · exact .inl q
          · exact .inr ⟨y, by simp [hy], q⟩
    · by_cases q2 : fin x < o.1
      · have far : ∀ y, y ∈ o :: l → fin x < y.1 ∧ 1 ≤ y.2 := fun y hy => by
          rcases List.mem_cons.1 hy with rfl | hy
          · exact ⟨q2, io.2.1⟩
          · exact ⟨by have := ro y hy; unfold fin at *; omega, (il y hy).2.1⟩
        refine .inr ⟨x :: o :: l, x.1, fin x, [], by unfold gv; rw [if_neg q1, if_pos q2], gvI_far far hx.2.1, ⟨⟨fun z hz => ?_, List.pairwise_cons.2 ⟨fun z hz => (far z hz).1, h.rise⟩⟩, fun z => ?_, by simp, by simp, fun y hy _ => ?_, .inl rfl⟩⟩
        · rcases List.mem_cons.1 hz with rfl | hz
          · exact hx
          · exact h.ins z hz
        · rw [ex]
          simp only [List.mem_cons, List.not_mem_nil, not_false_eq_true, and_true]
          exact Or.comm
        · have := (far y hy).1
          unfold fin at this
          omega
      · by_cases q3 : fin o = x.1
        · have e1 : gv x (o :: l) = gv (o.1, o.2 + x.2) l := by conv => lhs; unfold gv; rw [if_neg q1, if_neg q2, if_pos q3]
          have e2 : gvI x x.1 (fin x) [] (o :: l) = gvI x o.1 (fin x) [o] l := by conv => lhs; unfold gvI; rw [if_pos q3]; simp
          rw [e1, e2]
          have noto : ∀ y, y ∈ l → y ≠ o := fun y hy e => by
            subst e
            have := ro y hy
            unfold fin at this
            omega
          by_cases r0 : ∀ y, y ∈ l → fin x < y.1
          · have e3 : gv (o.1, o.2 + x.2) l = some ((o.1, o.2 + x.2) :: l) := by
              cases l with
              | nil => rfl
              | cons y l =>
                have := r0 y (by simp)
                have := ro y (by simp)
                have := il y (by simp)
                unfold gv
                rw [if_neg (by unfold fin at *; simp; omega), if_pos (by unfold fin at *; simp; omega)]
            refine .inr ⟨_, o.1, fin x, [o], e3, gvI_far (fun y hy => ⟨r0 y hy, (il y hy).2.1⟩) hx.2.1, ⟨⟨fun z hz => ?_, List.pairwise_cons.2 ⟨fun z hz => ?_, ht.rise⟩⟩, fun z => ?_, by simp, by simp, fun y hy hyo => ?_, .inr ⟨o, by simp, rfl⟩⟩⟩
            · rcases List.mem_cons.1 hz with rfl | hz
              · unfold fin at *
                simp
                omega
              · exact il z hz
            · have := r0 z hz
              unfold fin at *
              simp
              omega
            · have e4 : ((o.1, o.2 + x.2) : Ex) = (o.1, fin x - o.1) := Prod.ext rfl (by unfold fin at *; simp; omega)
              rw [← e4]
              simp only [List.mem_cons, List.not_mem_nil, or_false]
              have := noto z
              grind
            · simp at hyo
              have hy' := (List.mem_cons.1 hy).resolve_left hyo
              have := ro y hy'
              unfold fin at this
              omega
          · cases l with
            | nil => exact absurd (by simp) r0
            | cons y l =>
              have ry := ro y (by simp)
              have iy := il y (by simp)
              have ry' := (List.pairwise_cons.1 ht.rise).1
              have q4 : ¬ fin x < y.1 := fun q => r0 fun z hz => by
                rcases List.mem_cons.1 hz with rfl | hz
                · exact q
                · have := ry' z hz
                  unfold fin at *
                  omega
              by_cases q5 : y.1 = fin x
              · have far : ∀ z, z ∈ l → fin x < z.1 ∧ 1 ≤ z.2 := fun z hz => ⟨by have := ry' z hz; unfold fin at *; omega, (il z (by simp [hz])).2.1⟩
                have e3 : gv (o.1, o.2 + x.2) (y :: l) = some ((o.1, o.2 + x.2 + y.2) :: l) := by
                  unfold gv
                  rw [if_neg (by unfold fin at *; simp; omega), if_neg (by unfold fin at *; simp; omega), if_neg (by unfold fin at *; simp; omega), if_pos (by unfold fin at *; simp; omega)]
                have e4 : gvI x o.1 (fin x) [o] (y :: l) = some (o.1, fin y, [o, y]) := by
                  unfold gvI
                  rw [if_neg (by unfold fin at *; omega), if_pos q5, gvI_far far hx.2.1]
                  rfl
                have noty : ∀ z, z ∈ l → z ≠ y := fun z hz e => by
                  subst e
                  have := ry' z hz
                  unfold fin at this
                  omega
                have oy : y ≠ o := noto y (by simp)
                refine .inr ⟨_, _, _, _, e3, e4, ⟨⟨fun z hz => ?_, List.pairwise_cons.2 ⟨fun z hz => ?_, ht.tl.rise⟩⟩, fun z => ?_, fun z hz => by simp at hz ⊢; grind, by simp [oy.symm], fun z hz hzo => ?_, .inr ⟨o, by simp, rfl⟩⟩⟩
                · rcases List.mem_cons.1 hz with rfl | hz
                  · unfold fin at *
                    simp
                    omega
                  · exact il z (by simp [hz])
                · have := ry' z hz
                  unfold fin at *
                  simp
                  omega
                · have e5 : ((o.1, o.2 + x.2 + y.2) : Ex) = (o.1, fin y - o.1) := Prod.ext rfl (by unfold fin at *; simp; omega)
                  rw [← e5]
                  simp only [List.mem_cons, List.not_mem_nil, or_false]
                  have := noto z
                  have := noty z
                  simp only [List.mem_cons] at *
                  grind
                · simp at hzo hz
                  have hz' : z ∈ l := (hz.resolve_left hzo.1).resolve_left hzo.2
                  have := ro z (by simp [hz'])
                  unfold fin at this
                  omega
              · refine .inl ⟨?_, ?_⟩
                · unfold gv
                  rw [if_neg (by unfold fin at *; simp; omega), if_neg (by unfold fin at *; simp; omega), if_neg (by unfold fin at *; simp; omega), if_neg (by unfold fin at *; simp; omega)]
                · unfold gvI
                  rw [if_neg (by unfold fin at *; omega), if_neg q5, if_pos (by unfold fin at *; omega)]
        · by_cases q4 : o.1 = fin x
          · have far : ∀ z, z ∈ l → fin x < z.1 ∧ 1 ≤ z.2 := fun z hz => ⟨by have := ro z hz; unfold fin at *; omega, (il z hz).2.1⟩
            have e3 : gv x (o :: l) = some ((x.1, x.2 + o.2) :: l) := by
              unfold gv
              rw [if_neg q1, if_neg q2, if_neg q3, if_pos q4]
            have e4 : gvI x x.1 (fin x) [] (o :: l) = some (x.1, fin o, [o]) := by
              unfold gvI
              rw [if_neg q3, if_pos q4, gvI_far far hx.2.1]
              rfl
            have noto : ∀ z, z ∈ l → z ≠ o := fun z hz e => by
              subst e
              have := ro z hz
              unfold fin at this
              omega
            refine .inr ⟨_, _, _, _, e3, e4, ⟨⟨fun z hz => ?_, List.pairwise_cons.2 ⟨fun z hz => ?_, ht.rise⟩⟩, fun z => ?_, by simp, by simp, fun z hz hzo => ?_, .inl rfl⟩⟩
            · rcases List.mem_cons.1 hz with rfl | hz
              · unfold fin at *
                simp
                omega
              · exact il z hz
            · have := ro z hz
              unfold fin at *
              simp
              omega
            · have e5 : ((x.1, x.2 + o.2) : Ex) = (x.1, fin o - x.1) := Prod.ext rfl (by unfold fin at *; simp; omega)
              rw [← e5]
              simp only [List.mem_cons, List.not_mem_nil, or_false]
              have := noto z
              grind
            · simp at hzo
              have := far z ((List.mem_cons.1 hz).resolve_left hzo)
              unfold fin at this
              omega
          · refine .inl ⟨?_, ?_⟩
            · unfold gv
              rw [if_neg q1, if_neg q2, if_neg q3, if_neg q4]
            · unfold gvI
              rw [if_neg q3, if_neg q4, if_pos (by unfold fin at *; omega)]
theorem Gv.exch {b : Int} {x : Ex} {l m g : List Ex} {f t : Int} (G : Gv b x l m f t g) (h : Pl b l) : exch ltP l g [(f, t - f)] = m ∧ exch ltS (srt l) g [(f, t - f)] = srt m ∧ m.length + g.length = l.length + 1 :=
  exch_eq h G.sub G.nd (fun z hz y hy hyg => by simp at hz; subst hz; exact G.ap y hy hyg) (by simp) G.pl fun z => by rw [G.mem z, List.mem_singleton]
/-- What was taken, given back. -/
theorem gv_back {b : Int} {o x : Ex} (hx : 1 ≤ x.2) (ho : o.1 ≤ x.1 ∧ fin x ≤ fin o) : ∀ {A B : List Ex}, Pl b (A ++ o :: B) → gv x (A ++ (pcs o x ++ B)) = some (A ++ o :: B)
  | [], B, h => by
    have io := h.ins o (by simp)
    have ro := (List.pairwise_cons.1 h.rise).1
    have far : ∀ y : Ex, y.1 = o.1 → fin y = fin o → gv y B = some (o :: B) := fun y e1 e2 => by
      have ey : y = o := Prod.ext e1 (by unfold fin at *; omega)
      subst ey
      cases B with
      | nil => rfl
      | cons z B =>
        have := ro z (by simp)
        have := h.ins z (by simp)
        unfold gv
        rw [if_neg (by unfold fin at *; omega), if_pos (by unfold fin at *; omega)]
    simp only [List.nil_append]
    unfold pcs
    split
    · rename_i e1
      split
      · rename_i e2
        exact far x e1.symm e2
      · rename_i e2
        simp only [List.nil_append, List.cons_append]
        unfold gv
        rw [if_neg (by unfold fin at *; simp; omega), if_neg (by unfold fin at *; simp), if_neg (by unfold fin at *; simp; omega), if_pos (by simp)]
        congr 2
        exact Prod.ext e1.symm (by unfold fin at *; simp; omega)
    · rename_i e1
      split
      · rename_i e2
        simp only [List.nil_append, List.cons_append]
        unfold gv
        rw [if_neg (by unfold fin at *; simp; omega), if_neg (by unfold fin at *; simp; omega), if_pos (by unfold fin at *; simp; omega)]
        exact far _ rfl (by unfold fin at *; simp; omega)
      · rename_i e2
        simp only [List.nil_append, List.cons_append]
        unfold gv
        rw [if_neg (by unfold fin at *; simp; omega), if_neg (by unfold fin at *; simp; omega), if_pos (by unfold fin at *; simp; omega)]
        unfold gv
        rw [if_neg (by unfold fin at *; simp; omega), if_neg (by unfold fin at *; simp; omega), if_neg (by unfold fin at *; simp; omega), if_pos (by unfold fin at *; simp; omega)]
        congr 2
        exact Prod.ext rfl (by unfold fin at *; simp; omega)
  | a :: A, B, h => by
    have ra := (List.pairwise_cons.1 h.rise).1 o (by simp)
    simp only [List.cons_append]
    unfold gv
    rw [if_pos (by omega), gv_back hx ho h.tl]
    rfl
end Go.Proofs.Ytpafeophdgnkmaa.Room
