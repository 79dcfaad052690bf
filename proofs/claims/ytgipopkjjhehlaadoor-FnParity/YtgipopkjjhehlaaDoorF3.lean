import Derived.Test.YtgipopkjjhehlaaDoorF2
namespace Go.Proofs.YtgipopkjjhehlaaDoor
namespace GF

/-- The value of a polynomial, the first coefficient being of degree 0. -/
def pv : List Nat → Nat → Nat
  | [], _ => 0
  | c :: r, x => gm (pv r x) x ^^^ c
def bt (l : List Nat) : Prop := ∀ c ∈ l, c < 256
theorem bt_cons {c : Nat} {l : List Nat} : bt (c :: l) ↔ c < 256 ∧ bt l := by simp [bt]
theorem xor_lt {a b : Nat} (ha : a < 256) (hb : b < 256) : a ^^^ b < 256 := Nat.xor_lt_two_pow (n := 8) ha hb
theorem pv_lt : ∀ {l : List Nat} (x : Nat), bt l → pv l x < 256
  | [], _, _ => by simp [pv]
  | c :: r, x, h => xor_lt (gm_lt x (pv_lt x (bt_cons.1 h).2)) (bt_cons.1 h).1
/-- The sum of two lists of one length. -/
def zx (p q : List Nat) : List Nat := List.zipWith (fun a b => a ^^^ b) p q
theorem pv_zx (x : Nat) : ∀ {p q : List Nat}, p.length = q.length → pv (zx p q) x = pv p x ^^^ pv q x
  | [], [], _ => by simp [zx, pv]
  | c :: p, d :: q, h => by
    have ih := pv_zx x (p := p) (q := q) (by simpa using h)
    unfold zx at ih
    simp only [zx, List.zipWith_cons_cons, pv]
    rw [ih, gm_xor_left, xor4]
theorem zx_len {p q : List Nat} (h : p.length = q.length) : (zx p q).length = p.length := by simp [zx, h]
theorem bt_zx : ∀ {p q : List Nat}, bt p → bt q → bt (zx p q)
  | [], _, _, _ => by simp [zx, bt]
  | _ :: _, [], _, _ => by simp [zx, bt]
  | c :: p, d :: q, h1, h2 => by
    simp only [zx, List.zipWith_cons_cons]
    exact bt_cons.2 ⟨xor_lt (bt_cons.1 h1).1 (bt_cons.1 h2).1, bt_zx (bt_cons.1 h1).2 (bt_cons.1 h2).2⟩
theorem zx_zero : ∀ {p q : List Nat}, p.length = q.length → (∀ c ∈ zx p q, c = 0) → p = q
  | [], [], _, _ => rfl
  | c :: p, d :: q, h, h0 => by
    simp only [zx, List.zipWith_cons_cons, List.mem_cons, forall_eq_or_imp] at h0
    rw [xor_eq_zero h0.1, zx_zero (by simpa using h) h0.2]

/-- The quotient by X - r. -/
def qd : List Nat → Nat → List Nat
  | [], _ => []
  | [_], _ => []
  | _ :: d :: t, r => pv (d :: t) r :: qd (d :: t) r
theorem qd_len : ∀ (l : List Nat) (r : Nat), (qd l r).length = l.length - 1
  | [], _ => rfl
  | [_], _ => rfl
  | _ :: d :: t, r => by simp [qd, qd_len (d :: t) r]
theorem bt_qd : ∀ {l : List Nat} (r : Nat), bt l → bt (qd l r)
  | [], _, _ => by simp [qd, bt]
  | [_], _, _ => by simp [qd, bt]
  | _ :: d :: t, r, h => bt_cons.2 ⟨pv_lt r (bt_cons.1 h).2, bt_qd r (bt_cons.1 h).2⟩
theorem pv_qd {x r : Nat} (hx : x < 256) (hr : r < 256) : ∀ {l : List Nat}, bt l → pv l x = pv l r ^^^ gm (x ^^^ r) (pv (qd l r) x)
  | [], _ => by simp [pv, qd, gm_zero]
  | [c], _ => by simp [pv, qd, gm_zero, zero_gm]
  | c :: d :: t, h => by
    have hb := (bt_cons.1 h).2
    have ih := pv_qd hx hr hb
    have hq : pv (qd (d :: t) r) x < 256 := pv_lt x (bt_qd r hb)
    have hv : pv (d :: t) r < 256 := pv_lt r hb
    show gm (pv (d :: t) x) x ^^^ c = (gm (pv (d :: t) r) r ^^^ c) ^^^ gm (x ^^^ r) (gm (pv (qd (d :: t) r) x) x ^^^ pv (d :: t) r)
    generalize pv (qd (d :: t) r) x = Q at *
    generalize pv (d :: t) r = V at *
    rw [ih, gm_xor_left, gm_xor_right, gm_assoc (xor_lt hx hr) hq hx, gm_xor_left x r V, gm_comm hx hv, gm_comm hr hv]
    -- V x + ((x+r)(Q x)) + c = V r + c + (x+r)(Q x) + (V x + V r)
    generalize gm V x = A
    generalize gm V r = B
    generalize gm (x ^^^ r) (gm Q x) = E
    apply Nat.eq_of_testBit_eq
    intro i
    simp only [Nat.testBit_xor]
    cases A.testBit i <;> cases B.testBit i <;> cases E.testBit i <;> cases c.testBit i <;> rfl
theorem coef_zero {r : Nat} : ∀ {l : List Nat}, (∀ c ∈ qd l r, c = 0) → pv l r = 0 → ∀ c ∈ l, c = 0
  | [], _, _ => by simp
  | [c], _, h => by simp [pv, zero_gm] at h; simp [h]
  | c :: d :: t, h0, h => by
    simp only [qd, List.mem_cons, forall_eq_or_imp] at h0
    have ih := coef_zero h0.2 h0.1
    have hc : c = 0 := by
      have h2 : gm (pv (d :: t) r) r ^^^ c = 0 := h
      rw [h0.1, zero_gm, Nat.zero_xor] at h2
      exact h2
    intro e he
    rcases List.mem_cons.1 he with h | h
    · rw [h]; exact hc
    · exact ih e h
theorem zero_of_roots : ∀ (rs l : List Nat), l.length = rs.length → bt rs → bt l → rs.Nodup → (∀ r ∈ rs, pv l r = 0) → ∀ c ∈ l, c = 0
  | [], l, h, _, _, _, _ => by have : l = [] := List.eq_nil_of_length_eq_zero h
                               subst this; simp
  | r :: rs, l, h, hr, hl, hn, h0 => by
    obtain ⟨hr1, hr2⟩ := bt_cons.1 hr
    obtain ⟨hn1, hn2⟩ := List.nodup_cons.1 hn
    have hz := zero_of_roots rs (qd l r) (by rw [qd_len, h]; simp) hr2 (bt_qd r hl) hn2 (fun s hs => by
      have e := pv_qd (hr2 s hs) hr1 hl
      rw [h0 s (List.mem_cons_of_mem _ hs), h0 r List.mem_cons_self, Nat.zero_xor] at e
      rcases gm_eq_zero (xor_lt (hr2 s hs) hr1) (pv_lt s (bt_qd r hl)) e.symm with e2 | e2
      · have := xor_eq_zero e2
        subst this
        exact absurd hs hn1
      · exact e2)
    exact coef_zero hz (h0 r List.mem_cons_self)
/-- Through so many points there is just one polynomial of so few coefficients. -/
theorem pv_unique {p q rs : List Nat} (hp : p.length = rs.length) (hq : q.length = rs.length) (bp : bt p) (bq : bt q) (br : bt rs) (hn : rs.Nodup) (h : ∀ r ∈ rs, pv p r = pv q r) : p = q := by
  have hl : p.length = q.length := by rw [hp, hq]
  refine zx_zero hl (zero_of_roots rs (zx p q) (by rw [zx_len hl, hp]) br (bt_zx bp bq) hn fun r hr => ?_)
  rw [pv_zx r hl, h r hr, Nat.xor_self]
end GF
end Go.Proofs.YtgipopkjjhehlaaDoor
