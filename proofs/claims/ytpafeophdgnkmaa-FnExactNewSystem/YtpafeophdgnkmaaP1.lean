/- Free room, of no program: extents, their orders, what is cut out, what is given. -/
namespace Go.Proofs.Ytpafeophdgnkmaa.Room
set_option linter.unusedVariables false

/-- An extent: where it begins, how long it is. -/
abbrev Ex := Int × Int
/-- Its end. -/
def fin (x : Ex) : Int := x.1 + x.2
/-- It lies within so many blocks. -/
def inB (b : Int) (x : Ex) : Bool := decide (0 ≤ x.1) && (decide (1 ≤ x.2) && decide (x.2 ≤ b - x.1))
theorem inB_iff {b : Int} {x : Ex} : inB b x = true ↔ 0 ≤ x.1 ∧ 1 ≤ x.2 ∧ x.2 ≤ b - x.1 := by simp [inB]
/-- Extents that rise, none touching the next, from m on. -/
def plc (b : Int) : Int → List Ex → Bool
  | _, [] => true
  | m, x :: l => decide (m ≤ x.1) && (inB b x && plc b (fin x + 1) l)
/-- Ahead by size, then by place. -/
def ltS (x y : Ex) : Bool := decide (x.2 < y.2) || (decide (x.2 = y.2) && decide (x.1 < y.1))
theorem ltS_iff {x y : Ex} : ltS x y = true ↔ x.2 < y.2 ∨ x.2 = y.2 ∧ x.1 < y.1 := by simp [ltS]
/-- Ahead by place. -/
def ltP (x y : Ex) : Bool := decide (x.1 < y.1)
theorem ltP_iff {x y : Ex} : ltP x y = true ↔ x.1 < y.1 := by simp [ltP]

/-- An order that parts what differs, as far as a list goes. -/
structure Ord (lt : Ex → Ex → Bool) : Prop where
  irr : ∀ x, lt x x = false
  tr : ∀ x y z, lt x y = true → lt y z = true → lt x z = true
theorem ordS : Ord ltS := ⟨fun x => by simp [ltS], fun x y z h k => by
  rw [ltS_iff] at *
  omega⟩
theorem ordP : Ord ltP := ⟨fun x => by simp [ltP], fun x y z h k => by
  rw [ltP_iff] at *
  omega⟩
theorem totS (x y : Ex) (h : ltS x y = false) (k : ltS y x = false) : x = y := by
  have h' : ¬ (x.2 < y.2 ∨ x.2 = y.2 ∧ x.1 < y.1) := fun q => by rw [← ltS_iff, h] at q; simp at q
  have k' : ¬ (y.2 < x.2 ∨ y.2 = x.2 ∧ y.1 < x.1) := fun q => by rw [← ltS_iff, k] at q; simp at q
  exact Prod.ext (by omega) (by omega)

/-- Strictly in order. -/
def So (lt : Ex → Ex → Bool) (l : List Ex) : Prop := l.Pairwise fun x y => lt x y = true

theorem So.cons {lt : Ex → Ex → Bool} {x : Ex} {l : List Ex} : So lt (x :: l) ↔ (∀ y, y ∈ l → lt x y = true) ∧ So lt l := List.pairwise_cons
theorem So.app {lt : Ex → Ex → Bool} {l m : List Ex} : So lt (l ++ m) ↔ So lt l ∧ So lt m ∧ ∀ x, x ∈ l → ∀ y, y ∈ m → lt x y = true := List.pairwise_append

/-- Two lists in strict order with the same members are one. -/
theorem uniq {lt : Ex → Ex → Bool} (o : Ord lt) : ∀ {l m : List Ex}, So lt l → So lt m → (∀ x, x ∈ l ↔ x ∈ m) → l = m
  | [], [], _, _, _ => rfl
  | [], y :: m, _, _, h => absurd ((h y).2 (by simp)) (by simp)
  | x :: l, [], _, _, h => absurd ((h x).1 (by simp)) (by simp)
  | x :: l, y :: m, hl, hm, h => by
    rw [So.cons] at hl hm
    have e : x = y := by
      by_cases e : x = y
      · exact e
      · have h1 : x ∈ m := by have := (h x).1 (by simp); simpa [e] using this
        have h2 : y ∈ l := by have := (h y).2 (by simp); simpa [Ne.symm e] using this
        have := o.tr x y x (hl.1 y h2) (hm.1 x h1)
        rw [o.irr] at this
        cases this
    subst e
    congr 1
    refine uniq o hl.2 hm.2 fun z => ?_
    have hz := h z
    have n1 : z ∈ l → z ≠ x := fun hz' e => by subst e; have := hl.1 z hz'; rw [o.irr] at this; cases this
    have n2 : z ∈ m → z ≠ x := fun hz' e => by subst e; have := hm.1 z hz'; rw [o.irr] at this; cases this
    simp only [List.mem_cons] at hz
    exact ⟨fun a => (hz.1 (.inr a)).resolve_left (n1 a), fun a => (hz.2 (.inr a)).resolve_left (n2 a)⟩

/-- Laid in behind all that are ahead of it. -/
def ins (x : Ex) : List Ex → List Ex
  | [] => [x]
  | y :: l => bif ltS y x then y :: ins x l else x :: y :: l
def srtOn (out : List Ex) (l : List Ex) : List Ex := l.foldl (fun out x => ins x out) out
/-- By size. -/
def srt (l : List Ex) : List Ex := srtOn [] l
theorem mem_ins {x z : Ex} : ∀ {l : List Ex}, z ∈ ins x l ↔ z = x ∨ z ∈ l
  | [] => by simp [ins]
  | y :: l => by
    unfold ins
    cases ltS y x
    · simp
    · simp only [cond_true, List.mem_cons, mem_ins (l := l)]
      grind
theorem len_ins {x : Ex} : ∀ {l : List Ex}, (ins x l).length = l.length + 1
  | [] => rfl
  | y :: l => by
    unfold ins
    cases ltS y x
    · simp
    · simp [len_ins (l := l)]
theorem so_ins {x : Ex} : ∀ {l : List Ex}, So ltS l → x ∉ l → So ltS (ins x l)
  | [], _, _ => by simp [ins, So]
  | y :: l, h, hx => by
    rw [So.cons] at h
    unfold ins
    simp only [List.mem_cons, not_or] at hx
    cases e : ltS y x
    · simp only [cond_false]
      have e' : ltS x y = true := by
        cases e' : ltS x y
        · exact absurd (totS x y e' e) hx.1
        · rfl
      refine So.cons.2 ⟨fun z hz => ?_, So.cons.2 h⟩
      rcases List.mem_cons.1 hz with rfl | hz
      · exact e'
      · exact ordS.tr x y z e' (h.1 z hz)
    · simp only [cond_true]
      refine So.cons.2 ⟨fun z hz => ?_, so_ins h.2 hx.2⟩
      rcases mem_ins.1 hz with rfl | hz
      · exact e
      · exact h.1 z hz
theorem mem_srtOn {z : Ex} : ∀ {l out : List Ex}, z ∈ srtOn out l ↔ z ∈ out ∨ z ∈ l
  | [], out => by simp [srtOn]
  | x :: l, out => by
    have := mem_srtOn (z := z) (l := l) (out := ins x out)
    simp only [srtOn, List.foldl_cons, List.mem_cons] at this ⊢
    rw [this, mem_ins]
    grind
theorem mem_srt {z : Ex} {l : List Ex} : z ∈ srt l ↔ z ∈ l := by simp [srt, mem_srtOn]
theorem len_srtOn : ∀ {l out : List Ex}, (srtOn out l).length = out.length + l.length
  | [], out => rfl
  | x :: l, out => by
    have := len_srtOn (l := l) (out := ins x out)
    simp only [srtOn, List.foldl_cons, List.length_cons] at this ⊢
    rw [this, len_ins]; omega
theorem len_srt {l : List Ex} : (srt l).length = l.length := by simp [srt, len_srtOn]
theorem so_srtOn : ∀ {l out : List Ex}, So ltS out → l.Nodup → (∀ x, x ∈ l → x ∉ out) → So ltS (srtOn out l)
  | [], out, h, _, _ => h
  | x :: l, out, h, hn, hd => by
    have hx := List.nodup_cons.1 hn
    refine so_srtOn (l := l) (out := ins x out) (so_ins h (hd x (by simp))) hx.2 fun y hy hy' => ?_
    rcases mem_ins.1 hy' with rfl | hy'
    · exact hx.1 hy
    · exact hd y (by simp [hy]) hy'
theorem so_srt {l : List Ex} (h : l.Nodup) : So ltS (srt l) := so_srtOn (by simp [So]) h (by simp)

/-- Extents that lie within, rising, no two touching. -/
structure Pl (b : Int) (l : List Ex) : Prop where
  ins : ∀ x, x ∈ l → 0 ≤ x.1 ∧ 1 ≤ x.2 ∧ fin x ≤ b
  rise : l.Pairwise fun x y => fin x < y.1
theorem plc_iff {b : Int} : ∀ {l : List Ex} {m : Int}, plc b m l = true ↔ Pl b l ∧ ∀ x, x ∈ l → m ≤ x.1
  | [], m => by simp [plc]; exact ⟨by simp, by simp⟩
  | x :: l, m => by
    have ih := plc_iff (b := b) (l := l) (m := fin x + 1)
    simp only [plc, Bool.and_eq_true, decide_eq_true_eq, inB_iff, ih]
    constructor
    · rintro ⟨h1, ⟨h2, h3, h4⟩, h5, h6⟩
      refine ⟨⟨fun y hy => ?_, List.pairwise_cons.2 ⟨fun y hy => by have := h6 y hy; omega, h5.rise⟩⟩, fun y hy => ?_⟩
      · rcases List.mem_cons.1 hy with rfl | hy
        · exact ⟨h2, h3, by unfold fin; omega⟩
        · exact h5.ins y hy
      · rcases List.mem_cons.1 hy with rfl | hy
        · exact h1
        · have := h6 y hy
          unfold fin at this
          omega
    · rintro ⟨⟨h1, h2⟩, h3⟩
      have h4 := List.pairwise_cons.1 h2
      have h5 := h1 x (by simp)
      unfold fin at h5
      exact ⟨h3 x (by simp), ⟨h5.1, h5.2.1, by omega⟩, ⟨fun y hy => h1 y (by simp [hy]), h4.2⟩, fun y hy => by have := h4.1 y hy; omega⟩
theorem plc0 {b : Int} {l : List Ex} : plc b 0 l = true ↔ Pl b l := by
  rw [plc_iff]
  exact ⟨fun h => h.1, fun h => ⟨h, fun x hx => (h.ins x hx).1⟩⟩
theorem Pl.so {b : Int} {l : List Ex} (h : Pl b l) : So ltP l := h.rise.imp_of_mem fun {x y} hx hy q => by
  have := h.ins x hx
  rw [ltP_iff]
  unfold fin at q
  omega
theorem So.nodup {lt : Ex → Ex → Bool} (o : Ord lt) {l : List Ex} (h : So lt l) : l.Nodup := h.imp fun {x y} q e => by
  subst e
  rw [o.irr] at q
  cases q
theorem Pl.nodup {b : Int} {l : List Ex} (h : Pl b l) : l.Nodup := h.so.nodup ordP
theorem Pl.so_srt {b : Int} {l : List Ex} (h : Pl b l) : So ltS (srt l) := Room.so_srt h.nodup

/-- Free room that is good. -/
def good (b : Int) (l s : List Ex) : Bool := (decide (1 ≤ b) && decide (b ≤ 400)) && (decide (l.length ≤ 60) && (plc b 0 l && decide (srt l = s)))
theorem good_iff {b : Int} {l s : List Ex} : good b l s = true ↔ (1 ≤ b ∧ b ≤ 400) ∧ l.length ≤ 60 ∧ Pl b l ∧ srt l = s := by
  simp [good, plc0]

/-- The same extents in strict order: so by size. -/
theorem srt_of {b : Int} {l s : List Ex} (h : Pl b l) (hs : So ltS s) (hm : ∀ x, x ∈ s ↔ x ∈ l) : s = srt l :=
  uniq ordS hs h.so_srt fun x => by rw [hm, mem_srt]

end Go.Proofs.Ytpafeophdgnkmaa.Room
