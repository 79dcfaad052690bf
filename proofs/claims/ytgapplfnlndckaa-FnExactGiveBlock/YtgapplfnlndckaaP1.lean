/- Buddies, of no program: blocks, their buddies, and both ways to tell a good buddy. -/
namespace Go.Proofs.Ytgapplfnlndckaa.Room
set_option linter.unusedVariables false

/-- A block: where it begins, its order. -/
abbrev Ex := Int × Int
/-- A power of two. -/
def pw (k : Int) : Int := ((2 ^ k.toNat : Nat) : Int)
theorem pw_pos (k : Int) : 1 ≤ pw k := by
  unfold pw
  have : 0 < 2 ^ k.toNat := Nat.two_pow_pos _
  omega
theorem pw_lt {j k : Int} (h : 2 * pw j ≤ pw k) (h0 : 0 ≤ j) : j < k := by
  by_cases h1 : j < k
  · exact h1
  · have : 2 ^ k.toNat ≤ 2 ^ j.toNat := Nat.pow_le_pow_right (by omega) (by omega)
    have := Nat.two_pow_pos j.toNat
    unfold pw at h
    omega
/-- How long it is. -/
def ln (x : Ex) : Int := pw x.2
/-- Its end. -/
def fin (x : Ex) : Int := x.1 + ln x
/-- It is a block. -/
def isB (x : Ex) : Bool := decide (0 ≤ x.2) && (decide (x.2 ≤ 8) && (decide (0 ≤ x.1) && (decide (x.1 ≤ 1073741824) && decide (x.1 % ln x = 0))))
theorem isB_iff {x : Ex} : isB x = true ↔ 0 ≤ x.2 ∧ x.2 ≤ 8 ∧ 0 ≤ x.1 ∧ x.1 ≤ 1073741824 ∧ x.1 % ln x = 0 := by simp [isB]
/-- One number with the bits of another turned. -/
def xr (a b : Int) : Int := ((a.toNat ^^^ b.toNat : Nat) : Int)
/-- Its buddy. -/
def bud (x : Ex) : Ex := (xr x.1 (ln x), x.2)
theorem ln_pos (x : Ex) : 1 ≤ ln x := pw_pos _
theorem ln_bud (x : Ex) : ln (bud x) = ln x := rfl
theorem bud_bud {x : Ex} (h : 0 ≤ x.1) : bud (bud x) = x := by
  obtain ⟨p, q⟩ := x
  simp only at h
  simp only [bud, ln, xr, Prod.mk.injEq, and_true]
  have e : (((p.toNat ^^^ (pw q).toNat : Nat) : Int)).toNat = p.toNat ^^^ (pw q).toNat := by simp
  rw [e, Nat.xor_assoc, Nat.xor_self, Nat.xor_zero]
  omega
theorem xor_one (q : Nat) : q ^^^ 1 = if q % 2 = 0 then q + 1 else q - 1 := by
  apply Nat.eq_of_testBit_eq
  intro i
  rw [Nat.testBit_xor]
  cases i with
  | zero =>
    have h1 : Nat.testBit 1 0 = true := by decide
    rw [h1]
    simp only [Nat.testBit_zero]
    split <;> rename_i h
    · have e1 : decide (q % 2 = 1) = false := by simp; omega
      have e2 : decide ((q + 1) % 2 = 1) = true := by simp; omega
      rw [e1, e2]; rfl
    · have e1 : decide (q % 2 = 1) = true := by simp; omega
      have e2 : decide ((q - 1) % 2 = 1) = false := by simp; omega
      rw [e1, e2]; rfl
  | succ i =>
    have h1 : Nat.testBit 1 (i + 1) = false := by
      rw [Nat.testBit_succ]; simp
    rw [h1, Bool.xor_false, Nat.testBit_succ, Nat.testBit_succ]
    congr 1
    split <;> omega
theorem bud_at {x : Ex} (h : isB x = true) : (bud x).1 = x.1 + ln x ∨ (bud x).1 = x.1 - ln x := by
  obtain ⟨h1, h2, h3, h4, h5⟩ := isB_iff.1 h
  obtain ⟨p, q⟩ := x
  simp only [ln, pw] at h5
  simp only at h1 h2 h3 h4
  obtain ⟨a, rfl⟩ : ∃ a : Nat, p = a := ⟨p.toNat, by omega⟩
  obtain ⟨k, hk⟩ : ∃ k : Nat, q.toNat = k := ⟨_, rfl⟩
  rw [hk] at h5
  have hd : a % 2 ^ k = 0 := by exact_mod_cast h5
  obtain ⟨c, rfl⟩ : ∃ c, a = 2 ^ k * c := ⟨a / 2 ^ k, by have := Nat.div_add_mod a (2 ^ k); omega⟩
  have e : (2 ^ k * c) ^^^ 2 ^ k = 2 ^ k * (c ^^^ 1) := by
    have e1 : 2 ^ k * c = c <<< k := by rw [Nat.shiftLeft_eq, Nat.mul_comm]
    have e2 : 2 ^ k = 1 <<< k := by rw [Nat.shiftLeft_eq, Nat.one_mul]
    have e3 : 2 ^ k * (c ^^^ 1) = (c ^^^ 1) <<< k := by rw [Nat.shiftLeft_eq, Nat.mul_comm]
    rw [e3, Nat.shiftLeft_xor_distrib, ← e1, ← e2]
  simp only [bud, xr, ln, pw, hk, Int.toNat_natCast]
  rw [e, xor_one]
  split
  · left
    rw [Nat.mul_add]
    push_cast
    omega
  · right
    rename_i hc
    have hc' : c = (c - 1) + 1 := by omega
    obtain ⟨c', rfl⟩ : ∃ c', c = c' + 1 := ⟨c - 1, hc'⟩
    rw [Nat.mul_add]
    simp only [Nat.add_sub_cancel]
    push_cast
    omega

/-- Blocks that rise from m on and lie below e. -/
def lst (e : Int) : Int → List Ex → Bool
  | _, [] => true
  | m, x :: l => isB x && (decide (x.1 ≤ e - ln x) && (decide (m ≤ x.1) && lst e (fin x) l))
theorem lst_cons {e m : Int} {x : Ex} {l : List Ex} : lst e m (x :: l) = true ↔ isB x = true ∧ x.1 ≤ e - ln x ∧ m ≤ x.1 ∧ lst e (fin x) l = true := by simp [lst]
/-- How many bytes they have. -/
def sm : List Ex → Int
  | [] => 0
  | x :: l => ln x + sm l
theorem lst_less {e m m' : Int} {l : List Ex} (h : lst e m l = true) (hm : m' ≤ m) : lst e m' l = true := by
  cases l with
  | nil => rfl
  | cons x l => rw [lst_cons] at *; exact ⟨h.1, h.2.1, by omega, h.2.2.2⟩
theorem lst_mem {e : Int} {x : Ex} : ∀ {m : Int} {l : List Ex}, lst e m l = true → x ∈ l → isB x = true ∧ x.1 ≤ e - ln x ∧ m ≤ x.1
  | m, y :: l, h, hx => by
    rw [lst_cons] at h
    rcases List.mem_cons.1 hx with rfl | hx
    · exact ⟨h.1, h.2.1, h.2.2.1⟩
    · obtain ⟨h1, h2, h3⟩ := lst_mem h.2.2.2 hx
      have := ln_pos y
      unfold fin at h3
      exact ⟨h1, h2, by omega⟩
/-- None of one list overlaps one of the other. -/
def dis (F U : List Ex) : Prop := ∀ x, x ∈ F → ∀ o, o ∈ U → ¬ (x.1 < fin o ∧ o.1 < fin x)
theorem lst_up {e m : Int} {f : Ex} {U : List Ex} (h : lst e m U = true) (hd : dis [f] U) (hf : ∀ u, u ∈ U → f.1 ≤ u.1) : lst e (fin f) U = true := by
  cases U with
  | nil => rfl
  | cons u U =>
    rw [lst_cons] at *
    have h1 := hd f (by simp) u (by simp)
    have h2 := hf u (by simp)
    have h3 := ln_pos u
    unfold fin at *
    exact ⟨h.1, h.2.1, by omega, h.2.2.2⟩
theorem dis_symm {F U : List Ex} (h : dis F U) : dis U F := fun x hx o ho => fun k => h o ho x hx ⟨k.2, k.1⟩
theorem dis_tail {f : Ex} {F U : List Ex} (h : dis (f :: F) U) : dis F U := fun x hx => h x (by simp [hx])
theorem dis_head {f : Ex} {F U : List Ex} (h : dis (f :: F) U) : dis [f] U := fun x hx => by
  rw [List.mem_singleton] at hx
  subst hx
  exact h x (by simp)
theorem lst_all {e m : Int} {l : List Ex} (h : lst e m l = true) : ∀ u, u ∈ l → m ≤ u.1 := fun u hu => (lst_mem h hu).2.2
theorem sm_one {e : Int} : ∀ {m : Int} {l : List Ex}, lst e m l = true → m ≤ e → sm l ≤ e - m
  | m, [], _, h => by simp [sm]; omega
  | m, x :: l, h, hm => by
    rw [lst_cons] at h
    have := sm_one h.2.2.2 (by unfold fin; omega)
    simp only [sm]
    unfold fin at this
    omega
/-- Two rising lists that nowhere overlap have no more bytes than there are. -/
theorem sm_two {e : Int} : ∀ (n : Nat) {m : Int} {F U : List Ex}, F.length + U.length = n → lst e m F = true → lst e m U = true → dis F U → m ≤ e → sm F + sm U ≤ e - m
  | n, m, [], U, hn, hF, hU, hd, hm => by simp only [sm]; have := sm_one hU hm; omega
  | n, m, f :: F, [], hn, hF, hU, hd, hm => by simp only [sm]; have := sm_one hF hm; simp only [sm] at this; omega
  | n, m, f :: F, u :: U, hn, hF, hU, hd, hm => by
    have hF' := lst_cons.1 hF
    have hU' := lst_cons.1 hU
    have h1 := hd f (by simp) u (by simp)
    have p1 := ln_pos f
    have p2 := ln_pos u
    by_cases c : f.1 < u.1
    · have hU2 : lst e (fin f) (u :: U) = true := lst_up hU (dis_head hd) (fun v hv => by
        rcases List.mem_cons.1 hv with rfl | hv
        · omega
        · have := lst_all hU'.2.2.2 v hv; unfold fin at this; omega)
      have := sm_two (n - 1) (by simp at hn ⊢; omega) hF'.2.2.2 hU2 (dis_tail hd) (by unfold fin; omega)
      simp only [sm] at this ⊢
      unfold fin at this
      omega
    · have c' : u.1 < f.1 := by unfold fin at h1; omega
      have hF2 : lst e (fin u) (f :: F) = true := lst_up hF (dis_head (dis_symm hd)) (fun v hv => by
        rcases List.mem_cons.1 hv with rfl | hv
        · omega
        · have := lst_all hF'.2.2.2 v hv; unfold fin at this; omega)
      have := sm_two (n - 1) (by simp at hn ⊢; omega) hF2 hU'.2.2.2 (dis_symm (dis_tail (dis_symm hd))) (by unfold fin; omega)
      simp only [sm] at this ⊢
      unfold fin at this
      omega

/-- From place to place: each next block is one of either list. -/
def fil (e : Int) (m : Int) (F U : List Ex) : Bool :=
  if m < e then
    match F, U with
    | f :: F, U => if f.1 = m then isB f && fil e (m + ln f) F U else
      match U with
      | u :: U => if u.1 = m then isB u && fil e (m + ln u) (f :: F) U else false
      | [] => false
    | [], u :: U => if u.1 = m then isB u && fil e (m + ln u) [] U else false
    | [], [] => false
  else decide (m = e) && (F.isEmpty && U.isEmpty)
termination_by F.length + U.length
theorem fil_end {e m : Int} {F U : List Ex} (h : ¬ m < e) : fil e m F U = (decide (m = e) && (F.isEmpty && U.isEmpty)) := by rw [fil.eq_def, if_neg h]
theorem fil_free {e m : Int} {f : Ex} {F U : List Ex} (h : m < e) (hf : f.1 = m) : fil e m (f :: F) U = (isB f && fil e (m + ln f) F U) := by rw [fil.eq_def, if_pos h]; simp [hf]
theorem fil_used {e m : Int} {u : Ex} {F U : List Ex} (h : m < e) (hf : ∀ f F', F = f :: F' → f.1 ≠ m) (hu : u.1 = m) : fil e m F (u :: U) = (isB u && fil e (m + ln u) F U) := by
  rw [fil.eq_def, if_pos h]
  cases F with
  | nil => simp [hu]
  | cons f F => simp [hu, hf f F rfl]
theorem fil_none {e m : Int} {F U : List Ex} (h : m < e) (hf : ∀ f F', F = f :: F' → f.1 ≠ m) (hu : ∀ u U', U = u :: U' → u.1 ≠ m) : fil e m F U = false := by
  rw [fil.eq_def, if_pos h]
  cases F with
  | nil => cases U with
    | nil => rfl
    | cons u U => simp [hu u U rfl]
  | cons f F => cases U with
    | nil => simp [hf f F rfl]
    | cons u U => simp [hu u U rfl, hf f F rfl]

theorem fil_of {e : Int} : ∀ (n : Nat) {m : Int} {F U : List Ex}, F.length + U.length = n → lst e m F = true → lst e m U = true → dis F U → sm F + sm U = e - m → m ≤ e → fil e m F U = true := by
  intro n
  induction n with
  | zero =>
    intro m F U hn hF hU hd hs hm
    obtain rfl : F = [] := List.eq_nil_of_length_eq_zero (by omega)
    obtain rfl : U = [] := List.eq_nil_of_length_eq_zero (by omega)
    simp only [sm] at hs
    rw [fil_end (by omega)]
    simp
    omega
  | succ n ih =>
    intro m F U hn hF hU hd hs hm
    by_cases hlt : m < e
    · by_cases hf : ∃ f F', F = f :: F' ∧ f.1 = m
      · obtain ⟨f, F', rfl, h1⟩ := hf
        have hF' := lst_cons.1 hF
        have hU2 : lst e (fin f) U = true := lst_up hU (dis_head hd) (fun v hv => by have := lst_all hU v hv; omega)
        rw [fil_free hlt h1, hF'.1, Bool.true_and]
        have : m + ln f = fin f := by unfold fin; omega
        rw [this]
        exact ih (by simp at hn; omega) hF'.2.2.2 hU2 (dis_tail hd) (by simp only [sm] at hs; unfold fin; omega) (by unfold fin; omega)
      · have hf' : ∀ f F', F = f :: F' → f.1 ≠ m := fun f F' h h' => hf ⟨f, F', h, h'⟩
        by_cases hu : ∃ u U', U = u :: U' ∧ u.1 = m
        · obtain ⟨u, U', rfl, h1⟩ := hu
          have hU' := lst_cons.1 hU
          have hF2 : lst e (fin u) F = true := lst_up hF (dis_head (dis_symm hd)) (fun v hv => by have := lst_all hF v hv; omega)
          rw [fil_used hlt hf' h1, hU'.1, Bool.true_and]
          have : m + ln u = fin u := by unfold fin; omega
          rw [this]
          exact ih (by simp at hn; omega) hF2 hU'.2.2.2 (dis_symm (dis_tail (dis_symm hd))) (by simp only [sm] at hs; unfold fin; omega) (by unfold fin; omega)
        · have g1 : lst e (m + 1) F = true := by
            cases F with
            | nil => rfl
            | cons f F => have := hf' f F rfl; rw [lst_cons] at *; exact ⟨hF.1, hF.2.1, by omega, hF.2.2.2⟩
          have g2 : lst e (m + 1) U = true := by
            cases U with
            | nil => rfl
            | cons u U => have : u.1 ≠ m := fun h => hu ⟨u, U, rfl, h⟩; rw [lst_cons] at *; exact ⟨hU.1, hU.2.1, by omega, hU.2.2.2⟩
          have := sm_two _ rfl g1 g2 hd (by omega)
          omega
    · have hp : ∀ l : List Ex, 0 ≤ sm l ∧ (sm l = 0 → l = []) := by
        intro l
        induction l with
        | nil => simp [sm]
        | cons x l ih => simp only [sm]; have := ln_pos x; exact ⟨by omega, by omega⟩
      rw [fil_end hlt, (hp F).2 (by have := hp F; have := hp U; omega), (hp U).2 (by have := hp F; have := hp U; omega)]
      simp
      omega
theorem of_fil {e : Int} : ∀ (n : Nat) {m : Int} {F U : List Ex}, F.length + U.length = n → fil e m F U = true → lst e m F = true ∧ lst e m U = true ∧ dis F U ∧ sm F + sm U = e - m ∧ m ≤ e := by
  intro n
  induction n with
  | zero =>
    intro m F U hn h
    obtain rfl : F = [] := List.eq_nil_of_length_eq_zero (by omega)
    obtain rfl : U = [] := List.eq_nil_of_length_eq_zero (by omega)
    by_cases hlt : m < e
    · rw [fil_none hlt (by simp) (by simp)] at h
      cases h
    · rw [fil_end hlt] at h
      simp at h
      exact ⟨rfl, rfl, fun x hx => by simp at hx, by simp [sm]; omega, by omega⟩
  | succ n ih =>
    intro m F U hn h
    by_cases hlt : m < e
    · by_cases hf : ∃ f F', F = f :: F' ∧ f.1 = m
      · obtain ⟨f, F', rfl, h1⟩ := hf
        rw [fil_free hlt h1] at h
        simp only [Bool.and_eq_true] at h
        obtain ⟨g1, g2, g3, g4, g5⟩ := ih (by simp at hn; omega) h.2
        have e1 : m + ln f = fin f := by unfold fin; omega
        have p := ln_pos f
        rw [e1] at g1 g2 g4 g5
        refine ⟨lst_cons.2 ⟨h.1, by unfold fin at g5; omega, by omega, g1⟩, lst_less g2 (by unfold fin; omega), fun x hx o ho => ?_, by simp only [sm]; unfold fin at g4; omega, by omega⟩
        rcases List.mem_cons.1 hx with rfl | hx
        · have := lst_all g2 o ho
          omega
        · exact g3 x hx o ho
      · have hf' : ∀ f F', F = f :: F' → f.1 ≠ m := fun f F' h h' => hf ⟨f, F', h, h'⟩
        by_cases hu : ∃ u U', U = u :: U' ∧ u.1 = m
        · obtain ⟨u, U', rfl, h1⟩ := hu
          rw [fil_used hlt hf' h1] at h
          simp only [Bool.and_eq_true] at h
          obtain ⟨g1, g2, g3, g4, g5⟩ := ih (by simp at hn; omega) h.2
          have e1 : m + ln u = fin u := by unfold fin; omega
          have p := ln_pos u
          rw [e1] at g1 g2 g4 g5
          refine ⟨lst_less g1 (by unfold fin; omega), lst_cons.2 ⟨h.1, by unfold fin at g5; omega, by omega, g2⟩, fun x hx o ho => ?_, by simp only [sm]; unfold fin at g4; omega, by omega⟩
          rcases List.mem_cons.1 ho with rfl | ho
          · have := lst_all g1 x hx
            omega
          · exact g3 x hx o ho
        · rw [fil_none hlt hf' (fun u U' h h' => hu ⟨u, U', h, h'⟩)] at h
          cases h
    · rw [fil_end hlt] at h
      simp at h
      obtain ⟨h1, h2, h3⟩ := h
      subst h2 h3
      simp at hn

/-- A block that has a buddy. -/
def okB (x : Ex) : Bool := isB x && (decide (x.2 ≠ 8) && isB (bud x))
/-- Two buddies side by side. -/
def prs : List Ex → Bool
  | x :: y :: l => (okB x && decide (bud x = y)) || prs (y :: l)
  | _ => false
theorem prs_of {e b : Int} (he : e = pw b) : ∀ {m : Int} {l : List Ex}, lst e m l = true → prs l = true → ∃ x, x ∈ l ∧ x.2 < b ∧ bud x ∈ l
  | m, [], _, h => by simp [prs] at h
  | m, [x], _, h => by simp [prs] at h
  | m, x :: y :: l, hl, h => by
    rw [prs, Bool.or_eq_true] at h
    rcases h with h | h
    · simp only [Bool.and_eq_true, decide_eq_true_eq] at h
      obtain ⟨h1, h2⟩ := h
      have l1 := lst_cons.1 hl
      have l2 := lst_cons.1 l1.2.2.2
      have l0 := isB_iff.1 l1.1
      refine ⟨x, by simp, ?_, by simp [h2]⟩
      apply pw_lt _ l0.1
      have e1 : ln y = ln x := by rw [← h2]; rfl
      have : ln x = pw x.2 := rfl
      unfold fin at l2
      omega
    · obtain ⟨z, h1, h2, h3⟩ := prs_of he (lst_cons.1 hl).2.2.2 h
      exact ⟨z, by simp [h1], h2, by simp [List.mem_cons.1 h3]⟩
theorem prs_side {e : Int} {x y : Ex} (hx : okB x = true) (hy : bud x = y) (hf : y.1 = fin x) : ∀ {m : Int} {l : List Ex}, lst e m l = true → x ∈ l → y ∈ l → prs l = true
  | m, z :: l, hl, h1, h2 => by
    have l1 := lst_cons.1 hl
    have px := ln_pos x
    by_cases hz : z = x
    · subst hz
      have h3 : y ∈ l := by
        rcases List.mem_cons.1 h2 with h | h
        · rw [h] at hf; unfold fin at hf; omega
        · exact h
      cases l with
      | nil => simp at h3
      | cons z' l =>
        rw [prs, Bool.or_eq_true]
        by_cases hz' : z' = y
        · left
          simp [hx, hz', hy]
        · exfalso
          have l2 := lst_cons.1 l1.2.2.2
          have h4 : y ∈ l := by
            rcases List.mem_cons.1 h3 with h | h
            · exact absurd h.symm hz'
            · exact h
          have := lst_all l2.2.2.2 y h4
          have := ln_pos z'
          unfold fin at *
          omega
    · have h1' : x ∈ l := by
        rcases List.mem_cons.1 h1 with h | h
        · exact absurd h.symm hz
        · exact h
      have h2' : y ∈ l := by
        rcases List.mem_cons.1 h2 with h | h
        · exfalso
          subst h
          have := lst_all l1.2.2.2 x h1'
          have := ln_pos y
          unfold fin at *
          omega
        · exact h
      have := prs_side hx hy hf l1.2.2.2 h1' h2'
      cases l with
      | nil => simp at h1'
      | cons z' l => rw [prs, this, Bool.or_true]
theorem of_prs {e b m : Int} {l : List Ex} (hb : b ≤ 8) (hl : lst e m l = true) {x : Ex} (hx : x ∈ l) (ho : x.2 < b) (hb' : bud x ∈ l) : prs l = true := by
  have b1 := (lst_mem hl hx).1
  have b2 := (lst_mem hl hb').1
  have i1 := isB_iff.1 b1
  rcases bud_at b1 with h | h
  · exact prs_side (x := x) (y := bud x) (by simp [okB, b1, b2]; omega) rfl h hl hx hb'
  · have e1 : bud (bud x) = x := bud_bud i1.2.2.1
    exact prs_side (x := bud x) (y := x) (by simp [okB, b1, b2, e1]; show ¬ x.2 = 8; omega) e1 (by unfold fin; rw [ln_bud]; omega) hl hb' hx

/-- A good buddy, as the program tells it. -/
def good (b : Int) (F U : List Ex) : Bool := decide (0 ≤ b) && (decide (b ≤ 8) && (fil (pw b) 0 F U && !prs F))
/-- None of the free ones has a free buddy or overlaps a used one. -/
def nonB (b : Int) (F U : List Ex) : List Ex → Bool
  | [] => true
  | x :: l => (!(decide (x.2 < b) && decide (bud x ∈ F)) && U.all fun o => !(decide (x.1 < fin o) && decide (o.1 < fin x))) && nonB b F U l
theorem nonB_iff {b : Int} {F U : List Ex} : ∀ {l : List Ex}, nonB b F U l = true ↔ ∀ x, x ∈ l → ¬ (x.2 < b ∧ bud x ∈ F) ∧ ∀ o, o ∈ U → ¬ (x.1 < fin o ∧ o.1 < fin x)
  | [] => by simp [nonB]
  | x :: l => by
    have e : (U.all fun o => !(decide (x.1 < fin o) && decide (o.1 < fin x))) = true ↔ ∀ o, o ∈ U → ¬ (x.1 < fin o ∧ o.1 < fin x) := by
      rw [List.all_eq_true]
      refine forall_congr' fun o => forall_congr' fun _ => ?_
      simp
      omega
    have e2 : (!(decide (x.2 < b) && decide (bud x ∈ F))) = true ↔ ¬ (x.2 < b ∧ bud x ∈ F) := by rw [Bool.not_eq_true', ← Bool.not_eq_true, Bool.and_eq_true, decide_eq_true_eq, decide_eq_true_eq]
    rw [nonB, Bool.and_eq_true, Bool.and_eq_true, e, e2, nonB_iff]
    constructor
    · intro h y hy
      rcases List.mem_cons.1 hy with rfl | hy
      · exact h.1
      · exact h.2 y hy
    · intro h
      exact ⟨h x (by simp), fun y hy => h y (by simp [hy])⟩
/-- A good buddy, as the specification tells it. -/
theorem good_spec {b : Int} {F U : List Ex} (h0 : 0 ≤ b) (h8 : b ≤ 8) : good b F U = (lst (pw b) 0 F && (lst (pw b) 0 U && (decide (sm F + sm U = pw b) && nonB b F U F))) := by
  have p := pw_pos b
  rw [Bool.eq_iff_iff]
  simp only [good, Bool.and_eq_true, decide_eq_true_eq, Bool.not_eq_true', h0, h8, true_and]
  constructor
  · rintro ⟨h, k⟩
    obtain ⟨g1, g2, g3, g4, g5⟩ := of_fil _ rfl h
    refine ⟨g1, g2, by omega, nonB_iff.2 fun x hx => ⟨fun q => ?_, fun o ho => g3 x hx o ho⟩⟩
    rw [of_prs h8 g1 hx q.1 q.2] at k
    cases k
  · rintro ⟨g1, g2, g3, g4⟩
    have g4 := nonB_iff.1 g4
    refine ⟨fil_of _ rfl g1 g2 (fun x hx o ho => (g4 x hx).2 o ho) (by omega) (by omega), ?_⟩
    cases hp : prs F
    · rfl
    · obtain ⟨x, q1, q2, q3⟩ := prs_of rfl g1 hp
      exact absurd ⟨q2, q3⟩ (g4 x q1).1
end Go.Proofs.Ytgapplfnlndckaa.Room
