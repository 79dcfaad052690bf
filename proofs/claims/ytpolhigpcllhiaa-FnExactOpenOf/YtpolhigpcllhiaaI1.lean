import Derived.Test.YtpolhigpcllhiaaP2
/- Promises, of no program: items, what is promised, what is done. -/
namespace Go.Proofs.Ytpolhigpcllhiaa.Room
set_option linter.unusedVariables false

/-- An item of a log: its kind, its number, its extent, how many are done. -/
structure It where
  k : Int
  i : Int
  x : Ex
  u : Int

def ov (x y : Ex) : Bool := decide (x.1 < fin y) && decide (y.1 < fin x)
theorem ov_comm (x y : Ex) : ov x y = ov y x := by unfold ov; exact Bool.and_comm _ _
/-- What the items ahead say of a number: its extent's length (-1: none), and how many are done. -/
def fst1 (id : Int) (s : Int × Int) (o : It) : Int × Int := if o.i = id then (if o.k = 1 then o.x.2 else s.1, o.u) else s
def fnd (pre : List It) (id : Int) : Int × Int := pre.foldl (fst1 id) (-1, 0)
theorem fnd_snoc (pre : List It) (x : It) (id : Int) : fnd (pre ++ [x]) id = fst1 id (fnd pre id) x := by simp [fnd, List.foldl_append]
/-- One item behind others: the model's look. -/
def okI (b : Int) (pl : List Ex) (pre : List It) (nx : Int) (x : It) : Bool :=
  if x.k = 1 then decide (x.i = nx) && (decide (x.u = 0) && (inB b x.x && (!(pre.any fun o => decide (o.k = 1) && ov o.x x.x) && !(pl.any fun o => ov o x.x))))
  else decide (x.k = 2) && (decide (x.x = (0, 0)) && (decide (0 ≤ (fnd pre x.i).1) && (decide ((fnd pre x.i).2 + 1 ≤ x.u) && decide (x.u ≤ (fnd pre x.i).1))))
def nxI (nx : Int) (x : It) : Int := if x.k = 1 then nx + 1 else nx
/-- All items: the model's look. -/
def rnI (b : Int) (pl : List Ex) : List It → Int → List It → Option Int
  | _, nx, [] => some nx
  | pre, nx, x :: l => if okI b pl pre nx x then rnI b pl (pre ++ [x]) (nxI nx x) l else none
/-- One item behind promises: the program's look. -/
def mayP (b : Int) (pl : List Ex) (P : List It) (x : It) : Bool :=
  decide (x.k = 1) && (decide (x.i = (P.length : Int) + 1) && (decide (x.u = 0) && (inB b x.x && (!(pl.any fun o => ov x.x o) && !(P.any fun o => ov x.x o.x)))))
def gi (l : List It) (i : Nat) : It := l.getD i ⟨0, 0, (0, 0), 0⟩
theorem gi_eq {l : List It} {i : Nat} (h : i < l.length) : gi l i = l[i] := by simp [gi, h]
def mayD (P : List It) (x : It) : Bool :=
  decide (x.k = 2) && (decide (x.x = (0, 0)) && (decide (1 ≤ x.i) && (decide (x.i < (P.length : Int) + 1) && (decide ((gi P (x.i - 1).toNat).u < x.u) && decide (x.u ≤ (gi P (x.i - 1).toNat).x.2)))))
def putU (P : List It) (j : Nat) (u : Int) : List It := P.set j { gi P j with u := u }
def stP (b : Int) (pl : List Ex) (P : List It) (x : It) : Option (List It) :=
  if mayP b pl P x then some (P ++ [x]) else if mayD P x then some (putU P (x.i - 1).toNat x.u) else none
/-- All items: the program's look. -/
def rnP (b : Int) (pl : List Ex) : List It → List It → Option (List It)
  | P, [] => some P
  | P, x :: l => match stP b pl P x with
    | none => none
    | some P' => rnP b pl P' l
/-- The promises that items hold. -/
def prm (l : List It) : List It := (l.filter fun o => decide (o.k = 1)).map fun o => { o with u := (fnd l o.i).2 }

structure Inv (b : Int) (pre P : List It) : Prop where
  ids : ∀ j, j < P.length → (gi P j).k = 1 ∧ (gi P j).i = (j : Int) + 1 ∧ inB b (gi P j).x = true ∧ 0 ≤ (gi P j).u ∧ (gi P j).u ≤ (gi P j).x.2
  fn : ∀ j : Nat, j < P.length → fnd pre ((j : Int) + 1) = ((gi P j).x.2, (gi P j).u)
  no : ∀ id : Int, id < 1 ∨ (P.length : Int) < id → fnd pre id = (-1, 0)
  eq : P = prm pre

theorem Inv.nil (b : Int) : Inv b [] [] := ⟨fun j h => absurd h (by simp), fun j h => absurd h (by simp), fun id _ => rfl, rfl⟩
theorem any_prm (pre : List It) (y : Ex) : (pre.any fun o => decide (o.k = 1) && ov o.x y) = (prm pre).any fun o => ov y o.x := by
  have e : ∀ (l : List It) (g : It → Int), (l.any fun o => decide (o.k = 1) && ov o.x y) = ((l.filter fun o => decide (o.k = 1)).map fun o => { o with u := g o }).any fun o => ov y o.x := by
    intro l g
    induction l with
    | nil => rfl
    | cons o l ih =>
      by_cases h : o.k = 1
      · simp [h, ov_comm o.x y] at ih ⊢
        rw [ih]
      · simp [h] at ih ⊢
        rw [ih]
  exact e pre _
theorem gi_app (P : List It) (x : It) (j : Nat) : gi (P ++ [x]) j = if j < P.length then gi P j else if j = P.length then x else ⟨0, 0, (0, 0), 0⟩ := by
  unfold gi
  rw [List.getD_eq_getElem?_getD, List.getD_eq_getElem?_getD, List.getElem?_append]
  split
  · rfl
  · split
    · next h => subst h; simp
    · rw [List.getElem?_eq_none (by simp; omega)]; rfl
theorem gi_put (P : List It) (k : Nat) (u : Int) (j : Nat) (hk : k < P.length) : gi (putU P k u) j = if j = k then { gi P k with u := u } else gi P j := by
  unfold putU
  by_cases h : j = k
  · subst h
    simp [gi, hk]
  · simp [gi, h, List.getElem?_set_ne (Ne.symm h)]
theorem len_put (P : List It) (k : Nat) (u : Int) : (putU P k u).length = P.length := by simp [putU]

theorem Inv.mem {b : Int} {pre P : List It} (h : Inv b pre P) {o : It} (ho : o ∈ pre) (hk : o.k = 1) : 1 ≤ o.i ∧ o.i ≤ (P.length : Int) := by
  have h1 : { o with u := (fnd pre o.i).2 } ∈ P := by
    rw [h.eq]
    exact List.mem_map.2 ⟨o, List.mem_filter.2 ⟨ho, by simpa using hk⟩, rfl⟩
  obtain ⟨j, hj, e⟩ := List.getElem_of_mem h1
  have h2 := (h.ids j hj).2.1
  rw [gi_eq hj, e] at h2
  simp only at h2
  omega
theorem Inv.put {b : Int} {pre P : List It} (h : Inv b pre P) (x : It) (hk : x.k = 1) (hi : x.i = (P.length : Int) + 1) (hu : x.u = 0) (hx : inB b x.x = true) : Inv b (pre ++ [x]) (P ++ [x]) := by
  have hx' := inB_iff.1 hx
  refine ⟨fun j hj => ?_, fun j hj => ?_, fun id hid => ?_, ?_⟩
  · rw [gi_app]
    split
    · exact h.ids j (by assumption)
    · have e : j = P.length := by simp at hj; omega
      rw [if_pos e]
      exact ⟨hk, by omega, hx, by omega, by omega⟩
  · rw [fnd_snoc, gi_app, fst1]
    split
    · have e : j = P.length := by omega
      rw [if_neg (by omega), if_pos e]
    · have e : j < P.length := by simp at hj; omega
      rw [if_pos e]
      exact h.fn j e
  · simp at hid
    rw [fnd_snoc, fst1, if_neg (by omega)]
    exact h.no id (by omega)
  · unfold prm
    rw [List.filter_append, List.map_append]
    have e1 : ([x].filter fun o => decide (o.k = 1)) = [x] := by simp [hk]
    rw [e1, List.map_cons, List.map_nil]
    have e2 : fnd (pre ++ [x]) x.i = (x.x.2, x.u) := by rw [fnd_snoc, fst1, if_pos rfl, if_pos hk]
    rw [e2]
    congr 1
    rw [h.eq]
    unfold prm
    refine List.map_congr_left fun o ho => ?_
    obtain ⟨h1, h2⟩ := List.mem_filter.1 ho
    have h3 := h.mem h1 (by simpa using h2)
    rw [fnd_snoc, fst1, if_neg (by omega)]
theorem Inv.done {b : Int} {pre P : List It} (h : Inv b pre P) (x : It) (hk : x.k = 2) (h1 : 1 ≤ x.i) (h2 : x.i < (P.length : Int) + 1) (h3 : (gi P (x.i - 1).toNat).u < x.u) (h4 : x.u ≤ (gi P (x.i - 1).toNat).x.2) : Inv b (pre ++ [x]) (putU P (x.i - 1).toNat x.u) := by
  obtain ⟨k, hk'⟩ : ∃ k : Nat, x.i = (k : Int) + 1 := ⟨(x.i - 1).toNat, by omega⟩
  have ek : (x.i - 1).toNat = k := by omega
  rw [ek] at h3 h4 ⊢
  have hkl : k < P.length := by omega
  refine ⟨fun j hj => ?_, fun j hj => ?_, fun id hid => ?_, ?_⟩
  · rw [len_put] at hj
    rw [gi_put _ _ _ _ hkl]
    split
    · next e =>
      subst e
      obtain ⟨q1, q2, q3, q4, q5⟩ := h.ids j hkl
      exact ⟨q1, q2, q3, by show (0 : Int) ≤ x.u; omega, h4⟩
    · exact h.ids j hj
  · rw [len_put] at hj
    rw [fnd_snoc, fst1, gi_put _ _ _ _ hkl]
    split
    · have e : j = k := by omega
      subst e
      rw [if_pos rfl, if_neg (by omega), h.fn j hkl]
    · rw [if_neg (by omega)]
      exact h.fn j hj
  · rw [len_put] at hid
    rw [fnd_snoc, fst1, if_neg (by omega)]
    exact h.no id hid
  · have e1 : prm (pre ++ [x]) = P.map fun o => if o.i = x.i then { o with u := x.u } else o := by
      rw [h.eq]
      unfold prm
      rw [List.filter_append]
      have e1 : ([x].filter fun o => decide (o.k = 1)) = [] := by simp [hk]
      rw [e1, List.append_nil, List.map_map]
      refine List.map_congr_left fun o ho => ?_
      rw [fnd_snoc, fst1]
      simp only [Function.comp]
      by_cases e : x.i = o.i
      · rw [if_pos e, if_pos e.symm]
      · rw [if_neg e, if_neg (fun q => e q.symm)]
    rw [e1]
    refine List.ext_getElem (by simp [len_put]) fun j hj hj' => ?_
    rw [len_put] at hj
    have e2 := gi_put P k x.u j hkl
    rw [gi_eq (by rw [len_put]; exact hj)] at e2
    rw [e2, List.getElem_map]
    have e3 := (h.ids j hj).2.1
    rw [gi_eq hj] at e3
    by_cases e : j = k
    · subst e
      rw [if_pos rfl, if_pos (by omega)]
      have e4 : gi P j = P[j] := gi_eq hkl
      show ({ gi P j with u := x.u } : It) = _
      rw [e4]
    · rw [if_neg e, if_neg (by omega)]
      exact gi_eq hj
/-- Both looks at one item are the same. -/
theorem step_same {b : Int} {pl : List Ex} {pre P : List It} (h : Inv b pre P) (x : It) :
    (okI b pl pre ((P.length : Int) + 1) x = false ∧ stP b pl P x = none) ∨
    (okI b pl pre ((P.length : Int) + 1) x = true ∧ ∃ P', stP b pl P x = some P' ∧ Inv b (pre ++ [x]) P' ∧ nxI ((P.length : Int) + 1) x = (P'.length : Int) + 1) := by
  have hany := any_prm pre x.x
  rw [← h.eq] at hany
  have hpl : (pl.any fun o => ov o x.x) = pl.any fun o => ov x.x o := by
    congr 1
    funext o
    exact ov_comm _ _
  by_cases hk : x.k = 1
  · have e : okI b pl pre ((P.length : Int) + 1) x = mayP b pl P x := by
      unfold okI mayP
      rw [if_pos hk, hany, hpl]
      simp only [hk, decide_true, Bool.true_and]
      congr 1
      congr 1
      congr 1
      exact Bool.and_comm _ _
    have ed : mayD P x = false := by unfold mayD; simp [hk]
    unfold stP
    rw [e]
    cases hm : mayP b pl P x with
    | false => simp [ed]
    | true =>
      refine .inr ⟨rfl, P ++ [x], rfl, ?_, by simp [nxI, hk]⟩
      unfold mayP at hm
      simp only [Bool.and_eq_true, decide_eq_true_eq] at hm
      exact h.put x hk hm.2.1 hm.2.2.1 hm.2.2.2.1
  · have ep : mayP b pl P x = false := by unfold mayP; simp [hk]
    have e : okI b pl pre ((P.length : Int) + 1) x = mayD P x := by
      unfold okI mayD
      rw [if_neg hk]
      congr 1
      congr 1
      by_cases hr : 1 ≤ x.i ∧ x.i < (P.length : Int) + 1
      · obtain ⟨k, hk'⟩ : ∃ k : Nat, x.i = (k : Int) + 1 := ⟨(x.i - 1).toNat, by omega⟩
        have ek : (x.i - 1).toNat = k := by omega
        have hf := h.fn k (by omega)
        have hi := h.ids k (by omega)
        have hi' := inB_iff.1 hi.2.2.1
        rw [ek, hk', hf]
        simp only
        have e1 : decide (0 ≤ (gi P k).x.2) = true := by simp; omega
        have e2 : decide (1 ≤ (k : Int) + 1) = true := by simp; omega
        have e3 : decide ((k : Int) + 1 < (P.length : Int) + 1) = true := by simp; omega
        rw [e1, e2, e3]
        simp only [Bool.true_and]
        congr 1
      · rw [h.no x.i (by omega)]
        simp
        omega
    unfold stP
    rw [e, ep]
    cases hm : mayD P x with
    | false => simp
    | true =>
      refine .inr ⟨rfl, putU P (x.i - 1).toNat x.u, rfl, ?_, by rw [len_put]; simp [nxI, hk]⟩
      unfold mayD at hm
      simp only [Bool.and_eq_true, decide_eq_true_eq] at hm
      exact h.done x hm.1 hm.2.2.1 hm.2.2.2.1 hm.2.2.2.2.1 hm.2.2.2.2.2
/-- Both looks at all items are the same. -/
theorem run_same {b : Int} {pl : List Ex} : ∀ (l : List It) {pre P : List It}, Inv b pre P →
    (rnI b pl pre ((P.length : Int) + 1) l = none ∧ rnP b pl P l = none) ∨
    (∃ P', rnI b pl pre ((P.length : Int) + 1) l = some ((P'.length : Int) + 1) ∧ rnP b pl P l = some P' ∧ Inv b (pre ++ l) P')
  | [], pre, P, h => .inr ⟨P, rfl, rfl, by simpa using h⟩
  | x :: l, pre, P, h => by
    rcases step_same (pl := pl) h x with ⟨h1, h2⟩ | ⟨h1, P', h2, h3, h4⟩
    · left
      simp [rnI, rnP, h1, h2]
    · have ih := run_same (pl := pl) l h3
      simp only [rnI, rnP, h1, h2, h4, if_true]
      rw [List.append_assoc] at ih
      exact ih
/-- The promises of items in a room, where they are right. -/
def prs (b : Int) (pl s : List Ex) (l : List It) : Option (List It) := if good b pl s && decide (l.length ≤ 30) then rnP b pl [] l else none
theorem prs_inv {b : Int} {pl s : List Ex} {l P : List It} (h : prs b pl s l = some P) : good b pl s = true ∧ l.length ≤ 30 ∧ Inv b l P ∧ rnP b pl [] l = some P := by
  unfold prs at h
  split at h
  · next hc =>
    simp only [Bool.and_eq_true, decide_eq_true_eq] at hc
    rcases run_same (pl := pl) l (Inv.nil b) with ⟨-, h2⟩ | ⟨P', -, h2, h3⟩
    · rw [h2] at h; cases h
    · rw [h2] at h
      cases h
      exact ⟨hc.1, hc.2, by simpa using h3, h2⟩
  · cases h
/-- Work that is good. -/
def gw (b : Int) (pl s : List Ex) (nx : Int) (l : List It) : Bool := match prs b pl s l with
  | none => false
  | some P => decide (nx = (P.length : Int) + 1)
theorem rn_prs (b : Int) (pl s : List Ex) (nx : Int) (l : List It) : gw b pl s nx l = (good b pl s && match rnI b pl [] 1 l with
  | none => false
  | some m => decide (l.length ≤ 30) && decide (m = nx)) := by
  unfold gw prs
  cases good b pl s with
  | false => rfl
  | true =>
    rcases run_same (pl := pl) l (Inv.nil b) with ⟨h1, h2⟩ | ⟨P', h1, h2, h3⟩
    · have h1' : rnI b pl [] 1 l = none := h1
      rw [h1']
      simp only [Bool.true_and]
      by_cases hl : l.length ≤ 30 <;> simp [hl, h2]
    · have h1' : rnI b pl [] 1 l = some ((P'.length : Int) + 1) := h1
      rw [h1']
      simp only [Bool.true_and]
      by_cases hl : l.length ≤ 30
      · simp only [hl, h2, decide_true, if_true, Bool.true_and]
        rw [decide_eq_decide]
        exact eq_comm
      · simp [hl]
end Go.Proofs.Ytpolhigpcllhiaa.Room
