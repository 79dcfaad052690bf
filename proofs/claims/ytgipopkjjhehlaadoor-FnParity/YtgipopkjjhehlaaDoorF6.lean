import Derived.Test.YtgipopkjjhehlaaDoorF5
namespace Go.Proofs.YtgipopkjjhehlaaDoor
namespace GF

/-- t, and g of each coefficient of p added. -/
def ad (g : Nat → Nat) : List Nat → List Nat → List Nat
  | [], t => t
  | _ :: _, [] => []
  | c :: p, d :: t => (d ^^^ g c) :: ad g p t
theorem ad_len (g : Nat → Nat) : ∀ p t, (ad g p t).length = t.length
  | [], t => by simp [ad]
  | _ :: _, [] => by simp [ad]
  | c :: p, d :: t => by simp [ad, ad_len g p t]
theorem ad_step (g : Nat → Nat) : ∀ (p t : List Nat) (k : Nat), k < p.length → p.length ≤ t.length → (ad g (p.take k) t).set k (t.getD k 0 ^^^ g (p.getD k 0)) = ad g (p.take (k + 1)) t
  | [], t, k, hk, _ => absurd hk (by simp)
  | c :: p, [], k, _, h => absurd h (by simp)
  | c :: p, d :: t, 0, _, _ => by cases p <;> cases t <;> simp [ad]
  | c :: p, d :: t, k + 1, hk, h => by
    have ih := ad_step g p t k (by simpa using hk) (by simpa using h)
    simp only [List.take_succ_cons, ad, List.set_cons_succ, List.getD_cons_succ]
    rw [ih]
theorem ad_at (g : Nat → Nat) : ∀ (p t : List Nat) (k : Nat), p.length ≤ t.length → (ad g (p.take k) t).getD k 0 = t.getD k 0
  | [], t, k, _ => by simp [ad]
  | c :: p, [], k, h => absurd h (by simp)
  | c :: p, d :: t, 0, _ => by simp [ad]
  | c :: p, d :: t, k + 1, h => by
    have ih := ad_at g p t k (by simpa using h)
    simp only [List.take_succ_cons, ad, List.getD_cons_succ]
    exact ih
theorem bt_ad {g : Nat → Nat} (hg : ∀ c, g c < 256) : ∀ {p t : List Nat}, bt t → bt (ad g p t)
  | [], t, h => by simpa [ad] using h
  | _ :: _, [], h => by simp [ad, bt]
  | c :: p, d :: t, h => bt_cons.2 ⟨xor_lt (bt_cons.1 h).1 (hg c), bt_ad hg (bt_cons.1 h).2⟩
theorem ad_sc (f : Nat) : ∀ p t : List Nat, p.length = t.length → ad (fun c => gm c f) p t = zx t (sc f p)
  | [], [], _ => by simp [ad, zx, sc]
  | c :: p, d :: t, h => by
    have ih := ad_sc f p t (by simpa using h)
    simp only [ad, ih]
    simp [zx, sc]
  | [], _ :: _, h => absurd h (by simp)
  | _ :: _, [], h => absurd h (by simp)
theorem pv_ad {f z : Nat} (hf : f < 256) (hz : z < 256) : ∀ {p t : List Nat}, p.length ≤ t.length → bt p → bt t → pv (ad (fun c => gm f c) p t) z = pv t z ^^^ gm f (pv p z)
  | [], t, _, _, _ => by simp [ad, pv, gm_zero]
  | c :: p, [], h, _, _ => absurd h (by simp)
  | c :: p, d :: t, h, hp, ht => by
    obtain ⟨hc, hp'⟩ := bt_cons.1 hp
    obtain ⟨hd, ht'⟩ := bt_cons.1 ht
    have ih := pv_ad hf hz (p := p) (t := t) (by simpa using h) hp' ht'
    show gm (pv (ad (fun c => gm f c) p t) z) z ^^^ (d ^^^ gm f c) = (gm (pv t z) z ^^^ d) ^^^ gm f (gm (pv p z) z ^^^ c)
    rw [ih, gm_xor_left, gm_xor_right, gm_assoc hf (pv_lt z hp') hz, xor4]

/-- What is laid of the product by X - x behind k rounds. -/
def mxs (x b k : Nat) (p : List Nat) : List Nat := mx x b (p.take k) ++ List.replicate (p.length - k) 0
theorem mxs_len (x b k : Nat) (p : List Nat) (h : k ≤ p.length) : (mxs x b k p).length = p.length + 1 := by
  simp only [mxs, List.length_append, mx_len, List.length_take, List.length_replicate]; omega
theorem mxs_step (x : Nat) : ∀ (p : List Nat) (b k : Nat), k < p.length → ((mxs x b k p).set k ((mxs x b k p).getD k 0 ^^^ gm (p.getD k 0) x)).set (k + 1) (p.getD k 0) = mxs x b (k + 1) p
  | [], b, k, h => absurd h (by simp)
  | c :: p, b, 0, _ => by simp [mxs, mx, List.replicate_succ]
  | c :: p, b, k + 1, h => by
    have ih := mxs_step x p c k (by simpa using h)
    have e : ∀ j, mxs x b (j + 1) (c :: p) = (b ^^^ gm c x) :: mxs x c j p := by intro j; simp [mxs, mx]
    rw [e, e]
    simp only [List.getD_cons_succ, List.set_cons_succ]
    rw [ih]
theorem mxs_next (x : Nat) : ∀ (p : List Nat) (b k : Nat), k < p.length → (mxs x b k p).getD (k + 1) 0 = 0
  | [], b, k, h => absurd h (by simp)
  | c :: p, b, 0, _ => by simp [mxs, mx, List.replicate_succ]
  | c :: p, b, k + 1, h => by
    have ih := mxs_next x p c k (by simpa using h)
    have e : ∀ j, mxs x b (j + 1) (c :: p) = (b ^^^ gm c x) :: mxs x c j p := by intro j; simp [mxs, mx]
    rw [e]
    simp only [List.getD_cons_succ]
    exact ih
theorem mxs_step' (x : Nat) (p : List Nat) (k : Nat) (h : k < p.length) : ((mxs x 0 k p).set (k + 1) ((mxs x 0 k p).getD (k + 1) 0 ^^^ p.getD k 0)).set k ((mxs x 0 k p).getD k 0 ^^^ gm (p.getD k 0) x) = mxs x 0 (k + 1) p := by
  rw [mxs_next x p 0 k h, Nat.zero_xor, List.set_comm _ _ (by omega)]
  exact mxs_step x p 0 k h
theorem mxs_all (x : Nat) (p : List Nat) : mxs x 0 p.length p = mulx p x := by simp [mxs, mulx]
theorem mxs_none (x : Nat) (p : List Nat) : mxs x 0 0 p = List.replicate (p.length + 1) 0 := by simp [mxs, mx, List.replicate_succ]
theorem bt_getD {l : List Nat} (h : bt l) (k : Nat) : l.getD k 0 < 256 := by
  rw [List.getD_eq_getElem?_getD]
  by_cases hk : k < l.length
  · rw [List.getElem?_eq_getElem hk]; exact h _ (List.getElem_mem hk)
  · rw [List.getElem?_eq_none (by omega)]; simp
theorem bt_set {l : List Nat} (h : bt l) (k : Nat) {v : Nat} (hv : v < 256) : bt (l.set k v) := by
  intro c hc
  rcases List.mem_or_eq_of_mem_set hc with h1 | h1
  · exact h c h1
  · omega
theorem bt_zeros (n : Nat) : bt (List.replicate n 0) := by
  intro c hc
  have := (List.mem_replicate.1 hc).2
  omega
theorem bt_take {l : List Nat} (h : bt l) (k : Nat) : bt (l.take k) := fun c hc => h c (List.mem_of_mem_take hc)
theorem bt_mxs {x k : Nat} {p : List Nat} (h : bt p) : bt (mxs x 0 k p) := by
  intro c hc
  rcases List.mem_append.1 hc with h1 | h1
  · exact bt_mx (by omega) (bt_take h k) c h1
  · exact bt_zeros _ c h1

/-- Newton: what is told behind k points. -/
structure Nw (X Y : Nat → Nat) (n k : Nat) (T Z : List Nat) : Prop where
  tl : T.length = n
  tb : bt T
  zl : Z.length = k + 1
  zb : bt Z
  at' : ∀ j, j < k → pv T (X j) = Y j
  zero : ∀ j, j < k → pv Z (X j) = 0
  only : ∀ z, z < 256 → pv Z z = 0 → ∃ j, j < k ∧ X j = z
  apart : ∀ i j, i < k → j < k → X i = X j → i = j
theorem Nw.start (X Y : Nat → Nat) (n : Nat) : Nw X Y n 0 (List.replicate n 0) [1] :=
  ⟨by simp, bt_zeros n, rfl, by simp [bt], fun _ h => absurd h (by omega), fun _ h => absurd h (by omega), fun z _ h => by simp [pv, zero_gm] at h, fun _ _ h => absurd h (by omega)⟩
theorem Nw.step {X Y : Nat → Nat} {n k : Nat} {T Z : List Nat} (h : Nw X Y n k T Z) (hX : ∀ k, k < n → X k < 256) (hY : ∀ k, k < n → Y k < 256) (hk : k < n) (hz : pv Z (X k) ≠ 0) :
    Nw X Y n (k + 1) (ad (fun c => gm (gm (pv T (X k) ^^^ Y k) (gi (pv Z (X k)))) c) Z T) (mulx Z (X k)) := by
  have hx := hX k hk
  have hT := pv_lt (X k) h.tb
  have hZ := pv_lt (X k) h.zb
  have hd := xor_lt hT (hY k hk)
  have hf : gm (pv T (X k) ^^^ Y k) (gi (pv Z (X k))) < 256 := gm_lt _ hd
  have hle : Z.length ≤ T.length := by rw [h.zl, h.tl]; omega
  have hne : ∀ j, j < k → X j ≠ X k := fun j hj e => hz (e ▸ h.zero j hj)
  refine ⟨by rw [ad_len, h.tl], bt_ad (fun c => gm_lt c hf) h.tb, by rw [mulx, mx_len, h.zl], bt_mx (by omega) h.zb, ?_, ?_, ?_, ?_⟩
  · intro j hj
    rw [pv_ad hf (hX j (by omega)) hle h.zb h.tb]
    by_cases e : j = k
    · subst e
      rw [gm_assoc hd (gi_lt _) hZ, gi_gm hZ hz, gm_one, xor_self_left]
    · rw [h.zero j (by omega), gm_zero, Nat.xor_zero, h.at' j (by omega)]
  · intro j hj
    rw [pv_mulx hx (hX j (by omega)) h.zb]
    by_cases e : j = k
    · subst e; rw [Nat.xor_self, gm_zero]
    · rw [h.zero j (by omega), zero_gm]
  · intro z hz256 h0
    rw [pv_mulx hx hz256 h.zb] at h0
    rcases gm_eq_zero (pv_lt z h.zb) (xor_lt hz256 hx) h0 with h1 | h1
    · obtain ⟨j, hj, e⟩ := h.only z hz256 h1
      exact ⟨j, by omega, e⟩
    · exact ⟨k, by omega, (xor_eq_zero h1).symm⟩
  · intro i j hi hj e
    by_cases e1 : i = k
    · by_cases e2 : j = k
      · omega
      · exact absurd (e1 ▸ e.symm) (hne j (by omega))
    · by_cases e2 : j = k
      · exact absurd (e2 ▸ e) (hne i (by omega))
      · exact h.apart i j (by omega) (by omega) e
theorem Nw.done {X Y : Nat → Nat} {n : Nat} {T Z : List Nat} (h : Nw X Y n n T Z) (hX : ∀ k, k < n → X k < 256) (hY : ∀ k, k < n → Y k < 256) : T = ol X Y n n :=
  through_unique hX hY (fun i j hi hj e => h.apart i j hi hj e) h.tl h.tb h.at'
end GF
end Go.Proofs.YtgipopkjjhehlaaDoor
