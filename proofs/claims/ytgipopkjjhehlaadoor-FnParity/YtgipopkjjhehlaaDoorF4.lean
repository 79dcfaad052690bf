import Derived.Test.YtgipopkjjhehlaaDoorF3
namespace Go.Proofs.YtgipopkjjhehlaaDoor
namespace GF

/-- A polynomial times X - x; 'b' is what comes over from the coefficient before. -/
def mx (x : Nat) : Nat → List Nat → List Nat
  | b, [] => [b]
  | b, c :: r => (b ^^^ gm c x) :: mx x c r
def mulx (p : List Nat) (x : Nat) : List Nat := mx x 0 p
theorem mx_len (x : Nat) : ∀ b p, (mx x b p).length = p.length + 1
  | _, [] => rfl
  | _, c :: r => by simp [mx, mx_len x c r]
theorem bt_mx {x : Nat} : ∀ {b : Nat} {p : List Nat}, b < 256 → bt p → bt (mx x b p)
  | b, [], hb, _ => by simpa [mx, bt] using hb
  | b, c :: r, hb, hp => bt_cons.2 ⟨xor_lt hb (gm_lt x (bt_cons.1 hp).1), bt_mx (bt_cons.1 hp).1 (bt_cons.1 hp).2⟩
theorem pv_mx {x z : Nat} (hx : x < 256) (hz : z < 256) : ∀ {b : Nat} {p : List Nat}, b < 256 → bt p → pv (mx x b p) z = b ^^^ gm (pv p z) (z ^^^ x)
  | b, [], hb, _ => by simp [mx, pv, zero_gm]
  | b, c :: r, hb, hp => by
    obtain ⟨hc, hr⟩ := bt_cons.1 hp
    have ih := pv_mx hx hz hc hr
    have hv : pv r z < 256 := pv_lt z hr
    show gm (pv (mx x c r) z) z ^^^ (b ^^^ gm c x) = b ^^^ gm (gm (pv r z) z ^^^ c) (z ^^^ x)
    rw [ih, gm_xor_left, gm_xor_left (gm (pv r z) z) c, gm_xor_right c z x, gm_assoc hv (xor_lt hz hx) hz, gm_assoc hv hz (xor_lt hz hx), gm_comm (xor_lt hz hx) hz]
    generalize gm (pv r z) (gm z (z ^^^ x)) = A
    generalize gm c z = B
    generalize gm c x = C
    apply Nat.eq_of_testBit_eq
    intro i
    simp only [Nat.testBit_xor]
    cases A.testBit i <;> cases B.testBit i <;> cases C.testBit i <;> cases b.testBit i <;> rfl
theorem pv_mulx {x z : Nat} {p : List Nat} (hx : x < 256) (hz : z < 256) (hp : bt p) : pv (mulx p x) z = gm (pv p z) (z ^^^ x) := by
  unfold mulx
  rw [pv_mx hx hz (by omega) hp, Nat.zero_xor]

/-- The product of f k over the k below n but i. -/
def pr (f : Nat → Nat) (i : Nat) : Nat → Nat
  | 0 => 1
  | k + 1 => if k = i then pr f i k else gm (pr f i k) (f k)
theorem pr_lt (f : Nat → Nat) (i : Nat) : ∀ n, pr f i n < 256
  | 0 => by simp [pr]
  | k + 1 => by
    unfold pr
    split
    · exact pr_lt f i k
    · exact gm_lt _ (pr_lt f i k)
theorem pr_zero {f : Nat → Nat} {i j : Nat} (hij : j ≠ i) (hf : f j = 0) : ∀ n, j < n → pr f i n = 0
  | 0, h => by omega
  | k + 1, h => by
    unfold pr
    by_cases e : j = k
    · subst e
      rw [if_neg hij, hf, gm_zero]
    · split
      · exact pr_zero hij hf k (by omega)
      · rw [pr_zero hij hf k (by omega), zero_gm]
theorem pr_ne {f : Nat → Nat} {i : Nat} : ∀ n, (∀ k, k < n → k ≠ i → f k < 256 ∧ f k ≠ 0) → pr f i n ≠ 0
  | 0, _ => by simp [pr]
  | k + 1, h => by
    unfold pr
    have ih := pr_ne k (fun q hq => h q (by omega))
    split
    · exact ih
    · rename_i hne
      intro e
      obtain ⟨h1, h2⟩ := h k (by omega) hne
      rcases gm_eq_zero (pr_lt f i k) h1 e with e | e
      · exact ih e
      · exact h2 e
/-- The polynomial that is 0 at all X k but X i. -/
def pl (X : Nat → Nat) (i : Nat) : Nat → List Nat
  | 0 => [1]
  | k + 1 => if k = i then pl X i k else mulx (pl X i k) (X k)
theorem bt_pl {X : Nat → Nat} {i : Nat} : ∀ n, bt (pl X i n)
  | 0 => by simp [pl, bt]
  | k + 1 => by
    unfold pl
    split
    · exact bt_pl k
    · exact bt_mx (by omega) (bt_pl k)
theorem pv_pl {X : Nat → Nat} {i z : Nat} (hz : z < 256) : ∀ n, (∀ k, k < n → X k < 256) → pv (pl X i n) z = pr (fun k => z ^^^ X k) i n
  | 0, _ => by simp [pl, pv, pr, zero_gm]
  | k + 1, h => by
    unfold pl pr
    split
    · exact pv_pl hz k (fun q hq => h q (by omega))
    · rw [pv_mulx (h k (by omega)) hz (bt_pl k), pv_pl hz k (fun q hq => h q (by omega))]
theorem pl_len {X : Nat → Nat} {i : Nat} : ∀ n, (pl X i n).length = n + 1 - (if i < n then 1 else 0)
  | 0 => by simp [pl]
  | k + 1 => by
    unfold pl
    have ih := pl_len (X := X) (i := i) k
    by_cases e : k = i
    · subst e
      rw [if_pos rfl, ih, if_neg (by omega), if_pos (by omega)]
      omega
    · rw [if_neg e]
      show (mx (X k) 0 (pl X i k)).length = _
      rw [mx_len, ih]
      by_cases h : i < k
      · rw [if_pos h, if_pos (by omega)]; omega
      · rw [if_neg h, if_neg (by omega)]; omega
theorem pl_len_lt {X : Nat → Nat} {i n : Nat} (h : i < n) : (pl X i n).length = n := by rw [pl_len, if_pos h]; omega

def sc (f : Nat) (p : List Nat) : List Nat := p.map fun c => gm c f
theorem bt_sc {f : Nat} {p : List Nat} (hp : bt p) : bt (sc f p) := by
  intro c hc
  simp only [sc, List.mem_map] at hc
  obtain ⟨d, hd, rfl⟩ := hc
  exact gm_lt f (hp d hd)
theorem pv_sc {f z : Nat} (hf : f < 256) (hz : z < 256) : ∀ {p : List Nat}, bt p → pv (sc f p) z = gm (pv p z) f
  | [], _ => by simp [sc, pv, zero_gm]
  | c :: r, hp => by
    obtain ⟨hc, hr⟩ := bt_cons.1 hp
    have ih := pv_sc hf hz hr
    have hv : pv r z < 256 := pv_lt z hr
    unfold sc at ih
    simp only [sc, List.map_cons, pv]
    rw [ih, gm_xor_left, gm_assoc hv hf hz, gm_comm hf hz, ← gm_assoc hv hz hf]
/-- What the i-th polynomial is taken times. -/
def fac (X Y : Nat → Nat) (n i : Nat) : Nat := gm (Y i) (gi (pr (fun k => X i ^^^ X k) i n))
/-- The sum of the first i polynomials. -/
def ol (X Y : Nat → Nat) (n : Nat) : Nat → List Nat
  | 0 => List.replicate n 0
  | i + 1 => zx (ol X Y n i) (sc (fac X Y n i) (pl X i n))
theorem ol_len {X Y : Nat → Nat} {n : Nat} : ∀ i, i ≤ n → (ol X Y n i).length = n
  | 0, _ => by simp [ol]
  | i + 1, h => by
    have ih := ol_len (X := X) (Y := Y) i (Nat.le_of_succ_le h)
    unfold ol
    rw [zx_len (by rw [ih, sc, List.length_map, pl_len_lt h]), ih]
theorem bt_ol {X Y : Nat → Nat} {n : Nat} : ∀ i, bt (ol X Y n i)
  | 0 => by
    intro c hc
    have := (List.mem_replicate.1 (show c ∈ List.replicate n 0 from hc)).2
    omega
  | i + 1 => bt_zx (bt_ol i) (bt_sc (bt_pl n))
theorem pv_zeros (z : Nat) : ∀ n, pv (List.replicate n 0) z = 0
  | 0 => rfl
  | n + 1 => by simp only [List.replicate_succ, pv]; rw [pv_zeros z n, zero_gm]; rfl
theorem ol_at {X Y : Nat → Nat} {n j : Nat} (hX : ∀ k, k < n → X k < 256) (hY : ∀ k, k < n → Y k < 256) (hd : ∀ i k, i < n → k < n → X i = X k → i = k) (hj : j < n) :
    ∀ i, i ≤ n → pv (ol X Y n i) (X j) = if j < i then Y j else 0
  | 0, _ => by simp [ol, pv_zeros]
  | i + 1, h => by
    have ih := ol_at hX hY hd hj i (Nat.le_of_succ_le h)
    have hf : fac X Y n i < 256 := gm_lt _ (hY i h)
    have hs : (sc (fac X Y n i) (pl X i n)).length = n := by rw [sc, List.length_map, pl_len_lt h]
    unfold ol
    rw [pv_zx _ (by rw [hs, ol_len i (Nat.le_of_succ_le h)]), ih, pv_sc hf (hX j hj) (bt_pl n), pv_pl (hX j hj) n hX]
    by_cases e : j = i
    · subst e
      rw [if_neg (by omega), if_pos (by omega), Nat.zero_xor]
      have hne : pr (fun k => X j ^^^ X k) j n ≠ 0 := pr_ne n fun k hk hkj => ⟨xor_lt (hX j hj) (hX k hk), fun e => hkj (hd k j hk hj (xor_eq_zero e).symm)⟩
      have hlt := pr_lt (fun k => X j ^^^ X k) j n
      unfold fac
      generalize pr (fun k => X j ^^^ X k) j n = b at *
      rw [gm_comm (hY j hj) (gi_lt b), ← gm_assoc hlt (gi_lt b) (hY j hj), gm_gi hlt hne, one_gm (hY j hj)]
    · rw [pr_zero (f := fun k => X j ^^^ X k) (j := j) e (Nat.xor_self _) n hj, zero_gm, Nat.xor_zero]
      by_cases h2 : j < i
      · rw [if_pos h2, if_pos (by omega)]
      · rw [if_neg h2, if_neg (by omega)]
/-- The polynomial through the points. -/
theorem through_at {X Y : Nat → Nat} {n j : Nat} (hX : ∀ k, k < n → X k < 256) (hY : ∀ k, k < n → Y k < 256) (hd : ∀ i k, i < n → k < n → X i = X k → i = k) (hj : j < n) : pv (ol X Y n n) (X j) = Y j := by
  rw [ol_at hX hY hd hj n (Nat.le_refl _), if_pos hj]
/-- It alone. -/
theorem through_unique {X Y : Nat → Nat} {n : Nat} {q : List Nat} (hX : ∀ k, k < n → X k < 256) (hY : ∀ k, k < n → Y k < 256) (hd : ∀ i k, i < n → k < n → X i = X k → i = k) (hq : q.length = n) (bq : bt q) (h : ∀ j, j < n → pv q (X j) = Y j) : q = ol X Y n n := by
  refine pv_unique (rs := (List.range n).map X) (by simp [hq]) (by simp [ol_len n (Nat.le_refl n)]) bq (bt_ol n) ?_ ?_ ?_
  · intro c hc
    simp only [List.mem_map, List.mem_range] at hc
    obtain ⟨k, hk, rfl⟩ := hc
    exact hX k hk
  · unfold List.Nodup
    rw [List.pairwise_iff_getElem]
    intro i j hi hj hij
    simp only [List.length_map, List.length_range] at hi hj
    simp only [List.getElem_map, List.getElem_range]
    intro e
    have := hd i j hi hj e
    omega
  · intro r hr
    simp only [List.mem_map, List.mem_range] at hr
    obtain ⟨k, hk, rfl⟩ := hr
    rw [h k hk, through_at hX hY hd hk]
end GF
end Go.Proofs.YtgipopkjjhehlaaDoor
