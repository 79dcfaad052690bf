import Derived.Test.YtnanemkmmokdfaaM6
/- The specification: the text of a file. -/
namespace Go.Proofs.Ytnanemkmmokdfaa
open Go.ChangeShapes Go.WideShapes Go.ChangeAt Go.RowKit Go.Maps
set_option linter.unusedVariables false
open Hd

attribute [local go_sem] Oper.semAt_some

/-- The first texts of a row, one behind the other. -/
def cat (T : List ByteArray) : Nat → ByteArray
  | 0 => ⟨#[]⟩
  | k + 1 => cat T k ++ gs T k
def ct (T : List ByteArray) : ByteArray := cat T T.length
theorem cat_bytes (T : List ByteArray) : ∀ k, k ≤ T.length → (cat T k).data.toList = ((T.take k).map fun x => x.data.toList).flatten := by
  intro k
  induction k with
  | zero => intro _; rfl
  | succ k ih =>
    intro h
    rw [cat, ByteArray.data_append, Array.toList_append, ih (by omega), take_gs (by omega), List.map_append, List.flatten_append]
    simp
theorem ct_bytes (T : List ByteArray) : (ct T).data.toList = (T.map fun x => x.data.toList).flatten := by
  unfold ct
  rw [cat_bytes T T.length (Nat.le_refl _), List.take_length]
/-- How many bytes the first texts have. -/
def cz (T : List ByteArray) : Nat → Nat
  | 0 => 0
  | k + 1 => cz T k + (gs T k).size
theorem cat_size (T : List ByteArray) : ∀ k, (cat T k).size = cz T k := by
  intro k
  induction k with
  | zero => rfl
  | succ k ih => rw [cat, cz, ByteArray.size_append, ih]
theorem cz_le {T : List ByteArray} {M : Nat} : ∀ k, (∀ i, i < k → (gs T i).size ≤ M) → cz T k ≤ k * M := by
  intro k
  induction k with
  | zero => intro _; simp [cz]
  | succ k ih =>
    intro h
    have := ih (fun i hi => h i (by omega))
    have := h k (by omega)
    rw [cz, Nat.succ_mul]
    omega
set_option maxHeartbeats 1000000 in
theorem l15Text_any (v : Value) (u : Va) (fa : Option Addr) (fc : Nat) (l : List Int) (w : World) (hc : VAt w v u) (hn : u.pc.length ≤ 1048576) (hl : l.length ≤ 200) (hr : ∀ i, i < l.length → 0 ≤ gi l i ∧ gi l i < u.pc.length) (hsz : ∀ i, i < u.pc.length → (gm u.pc i).nm.size ≤ 24) (ha : Ints w fa l) :
    Calls Try.prog 72 #[v, .agg #[.slice fa l.length fc]] w fun e w' => e = .returned (.string (ct (txs u.pc l))) ∧ Below w.heap.size w w' := by
  obtain ⟨a, ca, a', ca', rfl, -, -, hP, -⟩ := hc
  have HN : Hid (∀ W, Below w.heap.size w W → Nms W a u.pc) := fun W h => hP.below h
  have HA : Hid (∀ W, Below w.heap.size w W → Ints W fa l) := fun W h => ha.below h
  have HR : Hid (∀ i, i < l.length → 0 ≤ gi l i ∧ gi l i < u.pc.length) := hr
  have HCz : Hid (∀ k, k ≤ l.length → cz (txs u.pc l) k ≤ 4800) := fun k hk => by
    have := cz_le (T := txs u.pc l) (M := 24) k (fun i hi => by
      rw [txs_at _ (by omega)]
      have := hr i (by omega)
      exact hsz _ (by omega))
    omega
  clear hP ha hr hsz
  obtain ⟨n, hn'⟩ : ∃ n, u.pc.length = n := ⟨_, rfl⟩
  obtain ⟨m, hm⟩ : ∃ m, l.length = m := ⟨_, rfl⟩
  have Hn : Hid (u.pc.length = n) := hn'
  have Hm : Hid (l.length = m) := hm
  have HTl : Hid ((txs u.pc l).length = m) := by show _ = _; rw [txs_len, hm]
  unfold vv
  rw [hn'] at hn
  rw [hm] at hl HCz
  rw [hn', hm]
  clear hn' hm
  generalize u.fs.length = q at *
  obtain ⟨s, hs⟩ : ∃ s, w.heap.size = s := ⟨_, rfl⟩
  obtain ⟨W0, hW0⟩ : ∃ W0, (w.alloc (.cells #[.slice a n ca, .slice a' q ca'] 40)).alloc (.cells #[.slice fa m fc] 81) = W0 := ⟨_, rfl⟩
  have q0 : Below w.heap.size w W0 := by subst hW0; exact ba2 _ _ _
  obtain ⟨B1, B2⟩ : W0.heap[s]? = some (.cells #[.slice a n ca, .slice a' q ca'] 40 (0, 0)) ∧ W0.heap[s + 1]? = some (.cells #[.slice fa m fc] 81 (0, 0)) := by subst hW0 hs; exact al2 _ _ _
  have H1 : Hid _ := B1
  obtain ⟨i0, i1, -, -⟩ := box2_cells B1
  obtain ⟨j0, -⟩ := box1_cells B2
  clear B1 B2
  go_enter Try.func72, Try.ntmps72
  go_wp2
  clear i0 i1 j0 hW0 hs
  go_loopw [5, 11] (fun ss i ws => ∃ (k : Nat), k ≤ m ∧ i = .int .i64 (k : Int) ∧ ss = .string (cat (txs u.pc l) k) ∧ Below W0.heap.size W0 ws) (fun _ i _ => m - (intOf i).toNat)
  case atStart => exact ⟨0, Nat.zero_le _, rfl, rfl, Below.refl _ _⟩
  case round =>
    obtain ⟨k, hk, rfl, rfl, hb⟩ := hrel
    have hbw := Below.comp q0 hb
    obtain ⟨i0, i1, -, -⟩ := box2_cells (box_on H1.out hb)
    by_cases hlt : k < m
    · obtain ⟨fb, foff, rfl, hpc⟩ := HA.out wr hbw (by have := Hm.out; omega)
      have z0 : wr.cell? ⟨fb, foff + k, none⟩ = some (iv (gi l k)) := hpc k (by rw [Hm.out]; exact hlt)
      obtain ⟨pb, poff, rfl, hpn⟩ := HN.out wr hbw (by have := HR.out k (by rw [Hm.out]; exact hlt); omega)
      have hx := HR.out k (by rw [Hm.out]; exact hlt)
      rw [Hn.out] at hx
      obtain ⟨t0, -⟩ := hpn (gi l k).toNat (by rw [Hn.out]; omega)
      clear hpc hpn
      have HT : Hid (cat (txs u.pc l) (k + 1) = cat (txs u.pc l) k ++ (gm u.pc (gi l k).toNat).nm) := by
        show _ = _
        rw [cat, txs_at _ (by rw [Hm.out]; exact hlt)]
      have hz1 := HCz.out (k + 1) (by omega)
      rw [← cat_size, HT.out, ByteArray.size_append] at hz1
      have hz2 := HCz.out k (by omega)
      rw [← cat_size] at hz2
      obtain ⟨x, hx0⟩ : ∃ x : Nat, gi l k = (x : Int) := ⟨(gi l k).toNat, by omega⟩
      rw [hx0] at z0 hx HT t0 hz1
      rw [Int.toNat_natCast] at HT t0 hz1
      have hxn : x < n := by omega
      have hxn' : (x : Int) < (n : Int) := by omega
      have hkm' : (k : Int) < (m : Int) := by omega
      clear hx0 hx
      generalize (gm u.pc x).nm = tx at *
      generalize cat (txs u.pc l) k = cc at *
      go_wp2
      go_roundw
      case rel => exact ⟨k + 1, by omega, by go_num, by rw [HT.out], hb⟩
      case measure => simp [intOf]; omega
    · have hkm : k = m := by omega
      subst hkm
      go_wp2
      go_ret
      exact ⟨by unfold ct; rw [HTl.out]; rfl, hbw⟩
end Go.Proofs.Ytnanemkmmokdfaa
