import Derived.Test.YtgipopkjjhehlaaDoorF6
namespace Go.Proofs.YtgipopkjjhehlaaDoor
set_option linter.unusedVariables false
/-! Stripes, a place at a time: sums over disks, and what brings lost disks back. -/
namespace GF

/-- The xor of f 0 .. f (n - 1). -/
def xs (f : Nat → Nat) : Nat → Nat
  | 0 => 0
  | n + 1 => xs f n ^^^ f n
theorem xs_lt {f : Nat → Nat} (h : ∀ i, f i < 256) : ∀ n, xs f n < 256
  | 0 => by simp [xs]
  | n + 1 => xor_lt (xs_lt h n) (h n)
theorem xs_congr {f g : Nat → Nat} : ∀ {n : Nat}, (∀ i, i < n → f i = g i) → xs f n = xs g n
  | 0, _ => rfl
  | n + 1, h => by simp only [xs]; rw [xs_congr (fun i hi => h i (by omega)), h n (by omega)]
theorem xs_one {f g : Nat → Nat} {a : Nat} : ∀ {n : Nat}, a < n → (∀ i, i < n → i ≠ a → f i = g i) → xs f n = xs g n ^^^ (f a ^^^ g a)
  | 0, h, _ => absurd h (by omega)
  | n + 1, h, e => by
    simp only [xs]
    by_cases hn : n = a
    · subst hn
      rw [xs_congr (fun i hi => e i (by omega) (by omega)), Nat.xor_assoc, Nat.xor_comm (f n) (g n), xor_self_left]
    · rw [xs_one (n := n) (by omega) (fun i hi hx => e i (by omega) hx), e n (by omega) hn, Nat.xor_assoc, Nat.xor_comm (f a ^^^ g a), ← Nat.xor_assoc]
/-- One turned. -/
def up (d : Nat → Nat) (a v : Nat) : Nat → Nat := fun i => if i = a then v else d i
theorem up_same (d : Nat → Nat) (a v : Nat) : up d a v a = v := if_pos rfl
theorem up_ne {d : Nat → Nat} {a v i : Nat} (h : i ≠ a) : up d a v i = d i := if_neg h
theorem up_lt {d : Nat → Nat} {a v : Nat} (h : ∀ i, d i < 256) (hv : v < 256) : ∀ i, up d a v i < 256 := fun i => by unfold up; split; exact hv; exact h i

def pp (n : Nat) (d : Nat → Nat) : Nat := xs d n
def qq (n : Nat) (d : Nat → Nat) : Nat := xs (fun i => gm (ex i) (d i)) n
theorem pp_lt {n : Nat} {d : Nat → Nat} (h : ∀ i, d i < 256) : pp n d < 256 := xs_lt h n
theorem qq_lt {n : Nat} {d : Nat → Nat} (h : ∀ i, d i < 256) : qq n d < 256 := xs_lt (fun i => gm_lt _ (ex_lt i)) n
theorem pp_up {n a v : Nat} {d : Nat → Nat} (h : a < n) : pp n (up d a v) = pp n d ^^^ (v ^^^ d a) := by
  rw [pp, xs_one (f := up d a v) (g := d) h (fun i _ hx => up_ne hx), up_same]; rfl
theorem qq_up {n a v : Nat} {d : Nat → Nat} (h : a < n) : qq n (up d a v) = qq n d ^^^ gm (ex a) (v ^^^ d a) := by
  rw [qq, xs_one (f := fun i => gm (ex i) (up d a v i)) (g := fun i => gm (ex i) (d i)) h (fun i _ hx => by rw [up_ne hx]), up_same, gm_xor_right]; rfl

/-- What a byte 1 of the disk counts in the two sums. -/
def cp (n i : Nat) : Nat := if i = n + 1 then 0 else 1
def cq (n i : Nat) : Nat := if i = n then 0 else if i = n + 1 then 1 else ex i
theorem cp_lt (n i : Nat) : cp n i < 256 := by unfold cp; split <;> omega
theorem cq_lt (n i : Nat) : cq n i < 256 := by unfold cq; split; omega; split; omega; exact ex_lt i
theorem cp_d {n i : Nat} (h : i < n) : cp n i = 1 := if_neg (by omega)
theorem cp_p (n : Nat) : cp n n = 1 := if_neg (by omega)
theorem cp_q (n : Nat) : cp n (n + 1) = 0 := if_pos rfl
theorem cq_d {n i : Nat} (h : i < n) : cq n i = ex i := by unfold cq; rw [if_neg (by omega), if_neg (by omega)]
theorem cq_p (n : Nat) : cq n n = 0 := if_pos rfl
theorem cq_q (n : Nat) : cq n (n + 1) = 1 := by unfold cq; rw [if_neg (by omega), if_pos rfl]
/-- All disks. -/
def dk (n : Nat) (d : Nat → Nat) (p q : Nat) (i : Nat) : Nat := if i < n then d i else if i = n then p else q
theorem dk_lt {n : Nat} {d : Nat → Nat} {p q : Nat} (h : ∀ i, d i < 256) (hp : p < 256) (hq : q < 256) (i : Nat) : dk n d p q i < 256 := by unfold dk; split; exact h i; split; exact hp; exact hq
/-- The two sums. -/
def sp (n : Nat) (d : Nat → Nat) (p : Nat) : Nat := pp n d ^^^ p
def sq' (n : Nat) (d : Nat → Nat) (q : Nat) : Nat := qq n d ^^^ q
theorem sp_lt {n : Nat} {d : Nat → Nat} {p : Nat} (h : ∀ i, d i < 256) (hp : p < 256) : sp n d p < 256 := xor_lt (pp_lt h) hp
theorem sq_lt' {n : Nat} {d : Nat → Nat} {p : Nat} (h : ∀ i, d i < 256) (hp : p < 256) : sq' n d p < 256 := xor_lt (qq_lt h) hp
theorem sum_p {n : Nat} {d : Nat → Nat} {p q : Nat} (h : ∀ i, d i < 256) (hp : p < 256) : xs (fun i => gm (cp n i) (dk n d p q i)) (n + 2) = sp n d p := by
  simp only [xs]
  rw [cp_q, zero_gm, Nat.xor_zero, cp_p, sp, pp]
  have e : dk n d p q n = p := by unfold dk; rw [if_neg (by omega), if_pos rfl]
  rw [e, one_gm hp]
  congr 1
  exact xs_congr fun i hi => by rw [cp_d hi, dk, if_pos hi, one_gm (h i)]
theorem sum_q {n : Nat} {d : Nat → Nat} {p q : Nat} (hq : q < 256) : xs (fun i => gm (cq n i) (dk n d p q i)) (n + 2) = sq' n d q := by
  simp only [xs]
  have e : dk n d p q (n + 1) = q := by unfold dk; rw [if_neg (by omega), if_neg (by omega)]
  rw [cq_p, zero_gm, Nat.xor_zero, cq_q, e, one_gm hq, sq', qq]
  congr 1
  exact xs_congr fun i hi => by rw [cq_d hi, dk, if_pos hi]

/-- 0 where one is a multiple of the other. -/
def crs (p q p' q' : Nat) : Nat := gm p q' ^^^ gm q p'
theorem crs_lt {p q p' q' : Nat} (hp : p < 256) (hq : q < 256) : crs p q p' q' < 256 := xor_lt (gm_lt _ hp) (gm_lt _ hq)
theorem crs_comm {p q p' q' : Nat} (hp : p < 256) (hq : q < 256) (hp' : p' < 256) (hq' : q' < 256) : crs p q p' q' = crs p' q' p q := by
  unfold crs; rw [gm_comm hp hq', gm_comm hq hp', Nat.xor_comm]
/-- What disk a is to be changed by, b being the other. -/
def ch (n a b u v : Nat) : Nat := gm (crs u v (cp n b) (cq n b)) (gi (crs (cp n a) (cq n a) (cp n b) (cq n b)))
theorem ch_lt {n a b u v : Nat} (hu : u < 256) (hv : v < 256) : ch n a b u v < 256 := gm_lt _ (crs_lt hu hv)
theorem ex_xor_ne {a b : Nat} (ha : a < 255) (hb : b < 255) (h : a ≠ b) : ex a ^^^ ex b ≠ 0 := fun e => h (ex_inj ha hb (xor_eq_zero e))
theorem cross_ne {n a b : Nat} (hn : n ≤ 16) (ha : a < n + 2) (hb : b < n + 2) (h : a ≠ b) : crs (cp n a) (cq n a) (cp n b) (cq n b) ≠ 0 := by
  unfold crs
  rcases (by omega : a < n ∨ n = a ∨ n + 1 = a) with ha | rfl | rfl <;> rcases (by omega : b < n ∨ n = b ∨ n + 1 = b) with hb | rfl | rfl
  · rw [cp_d ha, cp_d hb, cq_d ha, cq_d hb, one_gm (ex_lt b), gm_one]; exact ex_xor_ne (by omega) (by omega) (by omega)
  · rw [cp_d ha, cq_d ha, cp_p, cq_p, gm_zero, gm_one, Nat.zero_xor]; exact ex_ne a
  · rw [cp_d ha, cq_d ha, cp_q, cq_q, gm_zero, gm_one]; decide
  · rw [cp_d hb, cq_d hb, cp_p, cq_p, zero_gm, one_gm (ex_lt b), Nat.xor_zero]; exact ex_ne b
  · omega
  · rw [cp_p, cq_p, cp_q, cq_q]; decide
  · rw [cp_d hb, cq_d hb, cp_q, cq_q, zero_gm, gm_one, Nat.zero_xor]; decide
  · rw [cp_p, cq_p, cp_q, cq_q]; decide
  · omega
theorem gi_one : gi 1 = 1 := (gi_unique (by omega) (by omega) (by decide)).symm
theorem xor_back (a b : Nat) : a ^^^ (b ^^^ a) = b := by rw [Nat.xor_comm b a, xor_self_left]

theorem xor5 (a b v x y : Nat) : b ^^^ (v ^^^ x) = (a ^^^ (v ^^^ y)) ^^^ ((x ^^^ y) ^^^ (a ^^^ b)) := by
  apply Nat.eq_of_testBit_eq
  intro i
  simp only [Nat.testBit_xor]
  cases a.testBit i <;> cases b.testBit i <;> cases v.testBit i <;> cases x.testBit i <;> cases y.testBit i <;> rfl

/-! One disk. -/
theorem one_d {n a : Nat} {d : Nat → Nat} {p : Nat} (h : a < n) : d a ^^^ sp n d p = pp n (up d a 0) ^^^ p := by
  rw [pp_up h, sp, Nat.zero_xor, ← Nat.xor_assoc, Nat.xor_comm (d a)]
theorem one_p {n : Nat} {d : Nat → Nat} {p : Nat} : p ^^^ sp n d p = pp n d := xor_back _ _
theorem one_q {n : Nat} {d : Nat → Nat} {q : Nat} : q ^^^ sq' n d q = qq n d := xor_back _ _

/-! Two disks. -/
theorem ch_pq {n u v : Nat} : ch n n (n + 1) u v = u := by
  unfold ch crs; rw [cp_q, cq_q, cp_p, cq_p, gm_one, gm_zero, gm_one, gm_zero, Nat.xor_zero, Nat.xor_zero, gi_one, gm_one]
theorem ch_qp {n u v : Nat} : ch n (n + 1) n u v = v := by
  unfold ch crs; rw [cp_q, cq_q, cp_p, cq_p, gm_one, gm_zero, gm_zero, gm_one, Nat.zero_xor, Nat.zero_xor, gi_one, gm_one]
theorem ch_dq {n a u v : Nat} (h : a < n) : ch n a (n + 1) u v = u := by
  unfold ch crs; rw [cp_q, cq_q, cp_d h, cq_d h, gm_one, gm_zero, gm_one, gm_zero, Nat.xor_zero, Nat.xor_zero, gi_one, gm_one]
theorem ch_qd {n a u v : Nat} (h : a < n) (hu : u < 256) : ch n (n + 1) a u v = gm (ex a) u ^^^ v := by
  unfold ch crs; rw [cp_q, cq_q, cp_d h, cq_d h, gm_one, zero_gm, gm_one, Nat.zero_xor, gi_one, gm_one, gm_comm hu (ex_lt a)]
theorem ch_dp {n a u v : Nat} (h : a < n) (hv : v < 256) : ch n a n u v = gm (gi (ex a)) v := by
  unfold ch crs; rw [cp_p, cq_p, cp_d h, cq_d h, gm_one, gm_zero, gm_zero, gm_one, Nat.zero_xor, Nat.zero_xor, gm_comm hv (gi_lt _)]
theorem ch_pd {n a u v : Nat} (h : a < n) (hu : u < 256) (hv : v < 256) : ch n n a u v = u ^^^ gm (gi (ex a)) v := by
  unfold ch crs
  rw [cp_p, cq_p, cp_d h, cq_d h, gm_one, zero_gm, Nat.xor_zero, one_gm (ex_lt a), gm_xor_left, gm_assoc hu (ex_lt a) (gi_lt _), gm_gi (ex_lt a) (ex_ne a), gm_one, gm_comm hv (gi_lt _)]
theorem ch_dd {n a b u v : Nat} (ha : a < n) (hb : b < n) (hu : u < 256) (hv : v < 256) : ch n a b u v = gm (gi (ex a ^^^ ex b)) (v ^^^ gm (ex b) u) := by
  unfold ch crs
  have h1 : gm u (ex b) ^^^ v < 256 := xor_lt (gm_lt _ hu) hv
  rw [cp_d ha, cq_d ha, cp_d hb, cq_d hb, gm_one, gm_one, one_gm (ex_lt b), Nat.xor_comm (ex b), gm_comm h1 (gi_lt _), gm_comm hu (ex_lt b), Nat.xor_comm v]

theorem two_dq {n a : Nat} {d : Nat → Nat} {p q : Nat} (h : a < n) : q ^^^ (gm (ex a) (sp n d p) ^^^ sq' n d q) = qq n (up d a (pp n (up d a 0) ^^^ p)) := by
  rw [qq_up h, ← one_d h, Nat.xor_comm (d a), Nat.xor_assoc, Nat.xor_self, Nat.xor_zero, sq', ← Nat.xor_assoc, Nat.xor_comm q, Nat.xor_assoc, xor_back, Nat.xor_comm]
theorem two_dp {n a : Nat} {d : Nat → Nat} {p q : Nat} (h : a < n) (hd : ∀ i, d i < 256) (hq : q < 256) : d a ^^^ gm (gi (ex a)) (sq' n d q) = gm (gi (ex a)) (qq n (up d a 0) ^^^ q) := by
  rw [qq_up h, Nat.zero_xor, sq', Nat.xor_assoc, Nat.xor_comm (gm (ex a) (d a)), ← Nat.xor_assoc, gm_xor_right _ (qq n d ^^^ q), ← gm_assoc (gi_lt _) (ex_lt a) (hd a), gi_gm (ex_lt a) (ex_ne a), one_gm (hd a), Nat.xor_comm]
theorem two_pd {n a : Nat} {d : Nat → Nat} {p q : Nat} (h : a < n) (hd : ∀ i, d i < 256) (hq : q < 256) : p ^^^ (sp n d p ^^^ gm (gi (ex a)) (sq' n d q)) = pp n (up d a (gm (gi (ex a)) (qq n (up d a 0) ^^^ q))) := by
  rw [pp_up h, ← two_dp (p := p) h hd hq, Nat.xor_comm (d a), Nat.xor_assoc, Nat.xor_self, Nat.xor_zero, sp, ← Nat.xor_assoc, xor_back]

/-- What the other disks leave of the two sums. -/
theorem two_p {n a b : Nat} {d : Nat → Nat} {p : Nat} (ha : a < n) (hb : b < n) (h : a ≠ b) : pp n (up (up d a 0) b 0) ^^^ p = sp n d p ^^^ (d a ^^^ d b) := by
  rw [pp_up hb, pp_up ha, up_ne (Ne.symm h), Nat.zero_xor, Nat.zero_xor, sp]; ac_rfl
theorem two_q {n a b : Nat} {d : Nat → Nat} {q : Nat} (ha : a < n) (hb : b < n) (h : a ≠ b) : qq n (up (up d a 0) b 0) ^^^ q = sq' n d q ^^^ (gm (ex a) (d a) ^^^ gm (ex b) (d b)) := by
  rw [qq_up hb, qq_up ha, up_ne (Ne.symm h), Nat.zero_xor, Nat.zero_xor, sq']; ac_rfl
theorem two_da {n a b : Nat} {d : Nat → Nat} {p q : Nat} (hn : n ≤ 16) (ha : a < n) (hb : b < n) (h : a ≠ b) (hd : ∀ i, d i < 256) (hp : p < 256) (hq : q < 256) :
    d a ^^^ ch n a b (sp n d p) (sq' n d q) = gm (gi (ex a ^^^ ex b)) ((qq n (up (up d a 0) b 0) ^^^ q) ^^^ gm (ex b) (pp n (up (up d a 0) b 0) ^^^ p)) := by
  have hne := ex_xor_ne (a := a) (b := b) (by omega) (by omega) h
  have hlt : ex a ^^^ ex b < 256 := xor_lt (ex_lt a) (ex_lt b)
  rw [two_p ha hb h, two_q ha hb h, ch_dd ha hb (sp_lt hd hp) (sq_lt' hd hq)]
  have e : (sq' n d q ^^^ (gm (ex a) (d a) ^^^ gm (ex b) (d b))) ^^^ gm (ex b) (sp n d p ^^^ (d a ^^^ d b)) = (sq' n d q ^^^ gm (ex b) (sp n d p)) ^^^ gm (ex a ^^^ ex b) (d a) := by
    rw [gm_xor_right (ex b) (sp n d p), gm_xor_right (ex b) (d a), gm_xor_left, xor4]
    congr 1
    rw [Nat.xor_assoc, Nat.xor_comm (gm (ex b) (d b)), Nat.xor_assoc, Nat.xor_self, Nat.xor_zero]
  rw [e, gm_xor_right _ (sq' n d q ^^^ gm (ex b) (sp n d p)), ← gm_assoc (gi_lt _) hlt (hd a), gi_gm hlt hne, one_gm (hd a), Nat.xor_comm]
theorem two_db {n a b : Nat} {d : Nat → Nat} {p q : Nat} (hn : n ≤ 16) (ha : a < n) (hb : b < n) (h : a ≠ b) (hd : ∀ i, d i < 256) (hp : p < 256) (hq : q < 256) :
    d b ^^^ ch n b a (sp n d p) (sq' n d q) = (d a ^^^ ch n a b (sp n d p) (sq' n d q)) ^^^ (pp n (up (up d a 0) b 0) ^^^ p) := by
  have hne := ex_xor_ne (a := a) (b := b) (by omega) (by omega) h
  have hlt : ex a ^^^ ex b < 256 := xor_lt (ex_lt a) (ex_lt b)
  have hu := sp_lt (n := n) hd hp
  have hv := sq_lt' (n := n) hd hq
  rw [two_p ha hb h, ch_dd ha hb hu hv, ch_dd hb ha hu hv, Nat.xor_comm (ex b) (ex a)]
  have e : sp n d p = gm (gi (ex a ^^^ ex b)) (gm (ex a) (sp n d p)) ^^^ gm (gi (ex a ^^^ ex b)) (gm (ex b) (sp n d p)) := by
    rw [← gm_xor_right, ← gm_xor_left, ← gm_assoc (gi_lt _) hlt hu, gi_gm hlt hne, one_gm hu]
  rw [gm_xor_right, gm_xor_right]
  generalize gm (gi (ex a ^^^ ex b)) (gm (ex a) (sp n d p)) = A at *
  generalize gm (gi (ex a ^^^ ex b)) (gm (ex b) (sp n d p)) = B at *
  rw [e]
  exact xor5 _ _ _ _ _
/-- Where the disk alone makes both sums. -/
theorem fit_d {n a : Nat} {d : Nat → Nat} {p q : Nat} (h : a < n) (hd : ∀ i, d i < 256) (hp : p < 256) (hq : q < 256) : crs (cp n a) (cq n a) (sp n d p) (sq' n d q) = 0 ↔ qq n (up d a (pp n (up d a 0) ^^^ p)) = q := by
  rw [← two_dq (p := p) (q := q) h, crs, cp_d h, cq_d h, one_gm (sq_lt' hd hq), Nat.xor_comm (gm (ex a) (sp n d p))]
  constructor
  · intro e; rw [e, Nat.xor_zero]
  · intro e
    have := congrArg (fun z => q ^^^ z) e
    simpa [xor_self_left] using this
theorem pp_one {n a : Nat} {d : Nat → Nat} {p : Nat} (h : a < n) : pp n (up d a (pp n (up d a 0) ^^^ p)) = p := by
  rw [pp_up h, ← one_d h, sp, Nat.xor_comm (d a), Nat.xor_assoc, Nat.xor_self, Nat.xor_zero, xor_self_left]
theorem fit_p {n : Nat} {d : Nat → Nat} {p q : Nat} (hd : ∀ i, d i < 256) (hq : q < 256) : crs (cp n n) (cq n n) (sp n d p) (sq' n d q) = 0 ↔ qq n d = q := by
  rw [crs, cp_p, cq_p, zero_gm, Nat.xor_zero, one_gm (sq_lt' hd hq), sq']
  exact ⟨xor_eq_zero, fun e => by rw [e, Nat.xor_self]⟩
theorem fit_q {n : Nat} {d : Nat → Nat} {p q : Nat} (hd : ∀ i, d i < 256) (hp : p < 256) : crs (cp n (n + 1)) (cq n (n + 1)) (sp n d p) (sq' n d q) = 0 ↔ pp n d = p := by
  rw [crs, cp_q, cq_q, zero_gm, Nat.zero_xor, one_gm (sp_lt hd hp), sp]
  exact ⟨xor_eq_zero, fun e => by rw [e, Nat.xor_self]⟩
/-- No two disks fit but where both sums are 0. -/
theorem fit_two {n a b u v : Nat} (hn : n ≤ 16) (ha : a < n + 2) (hb : b < n + 2) (h : a ≠ b) (hu : u < 256) (hv : v < 256) (h1 : crs (cp n a) (cq n a) u v = 0) (h2 : crs (cp n b) (cq n b) u v = 0) : u = 0 ∧ v = 0 := by
  have hx := cross_ne hn ha hb h
  have hxl : crs (cp n a) (cq n a) (cp n b) (cq n b) < 256 := crs_lt (cp_lt n a) (cq_lt n a)
  have e1 : gm (cp n a) v = gm (cq n a) u := xor_eq_zero h1
  have e2 : gm (cp n b) v = gm (cq n b) u := xor_eq_zero h2
  have pa := cp_lt n a
  have pb := cp_lt n b
  have qa := cq_lt n a
  have qb := cq_lt n b
  have k1 : gm (crs (cp n a) (cq n a) (cp n b) (cq n b)) u = 0 := by
    rw [crs, gm_xor_left, gm_assoc pa qb hu, ← e2, gm_comm qa pb, gm_assoc pb qa hu, ← e1, ← gm_assoc pa pb hv, ← gm_assoc pb pa hv, gm_comm pa pb, Nat.xor_self]
  have k2 : gm (crs (cp n a) (cq n a) (cp n b) (cq n b)) v = 0 := by
    rw [crs, gm_xor_left, gm_comm pa qb, gm_assoc qb pa hv, e1, gm_assoc qa pb hv, e2, ← gm_assoc qb qa hu, ← gm_assoc qa qb hu, gm_comm qa qb, Nat.xor_self]
  exact ⟨(gm_eq_zero hxl hu k1).resolve_left hx, (gm_eq_zero hxl hv k2).resolve_left hx⟩
end GF
end Go.Proofs.YtgipopkjjhehlaaDoor
