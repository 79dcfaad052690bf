import Derived.Test.YtgipopkjjhehlaaDoorV3
namespace Go.Proofs.YtgipopkjjhehlaaDoor
open Go.ChangeShapes Go.WideShapes Go.ChangeAt Go.RowKit
set_option linter.unusedVariables false
open GF

/-- A text of L bytes. -/
def tx (L : Nat) (f : Nat → Nat) : ByteArray := ⟨((List.range L).map fun k => UInt8.ofNat (f k)).toArray⟩
theorem tx_size (L : Nat) (f : Nat → Nat) : (tx L f).size = L := by simp [tx, ByteArray.size]
theorem bb_tx {L : Nat} {f : Nat → Nat} {k : Nat} (hk : k < L) (hf : f k < 256) : bb (tx L f) k = f k := by
  simp [bb, tx, hk, Nat.mod_eq_of_lt hf]
theorem tx_congr {L : Nat} {f g : Nat → Nat} (h : ∀ k, k < L → f k = g k) : tx L f = tx L g := by
  unfold tx
  congr 2
  exact List.map_congr_left fun k hk => by rw [h k (List.mem_range.1 hk)]
theorem tx_bb (u : ByteArray) : tx u.size (bb u) = u := by
  apply ByteArray.ext
  apply Array.ext
  · simp [tx]
  · intro i h1 h2
    simp [tx, bb]
    rw [Array.getElem?_eq_getElem h2]
    rfl
theorem tx_bb' {u : ByteArray} {L : Nat} (h : u.size = L) : tx L (bb u) = u := by rw [← h]; exact tx_bb u
theorem tx_inj {L : Nat} {f g : Nat → Nat} (hf : ∀ k, f k < 256) (hg : ∀ k, g k < 256) (h : tx L f = tx L g) (k : Nat) (hk : k < L) : f k = g k := by
  rw [← bb_tx hk (hf k), ← bb_tx hk (hg k), h]

/-- Bytes in a row. -/
def bys (n : Nat) (S : Nat → Nat) (c : Array Value) : Prop := ∀ i, i < n → c[i]? = some (.int .u8 (S i : Int))
def by' (S : Nat → Nat) : Nat → Value := fun i => .int .u8 (S i : Int)
theorem Mine.bys {w : World} {B C : Nat} {e : TypeId} {n : Nat} {a : Option Addr} {S : Nat → Nat} (h : Mine w B C e n a (bys n S)) : At w a n (by' S) := by
  intro hn
  rcases h with h | ⟨b, c, g1, g2, h3, h4, h5⟩
  · exact absurd h hn
  · exact ⟨b, 0, h3, fun i hi => by simp [World.cell?, h4, h5 i hi, by']⟩
theorem bys_congr {n : Nat} {S T : Nat → Nat} {c : Array Value} (h : bys n S c) (e : ∀ i, i < n → S i = T i) : bys n T c := fun i hi => by rw [← e i hi]; exact h i hi
theorem bys_step {L k : Nat} {f g : Nat → Nat} {c : Array Value} (h : bys L (mx2 f g k) c) (hc : c.size = L) (hk : k < L) : bys L (mx2 f g (k + 1)) (c.setIfInBounds k (.int .u8 (g k : Int))) := by
  intro i hi
  by_cases e : i = k
  · subst e
    rw [set_at (by omega)]; simp [mx2]
  · rw [set_ne e, h i hi]
    simp only [mx2]
    congr 3
    by_cases q : i < k
    · rw [if_pos q, if_pos (by omega)]
    · rw [if_neg q, if_neg (by omega)]
theorem bys_made (L : Nat) : bys L (fun _ => 0) (made (.int .u8 0) L) := by
  intro i hi
  have e : i % 1 = 0 := by omega
  simp [made, madeCells, Value.cells, hi, e]
theorem info5 : (Tryd.prog.info? 5).map (fun i => (i.zero, i.size, i.bytes)) = some (some (.int .u8 0), 1, 1) := by kernel_rfl
theorem conv_any {w : World} {a : Option Addr} {L : Nat} {f : Nat → Nat} (cap : Nat) (hf : ∀ k, f k < 256) (h : At w a L (by' f)) : (convert 22 9 (.slice a L cap)).run Tryd.prog w = .ok (.string (tx L f)) w := by
  by_cases h0 : L = 0
  · subst h0
    cases a with
    | none => kernel_rfl
    | some a => exact run_convert_bytes_back (P := Tryd.prog) w 22 9 5 a cap [] Tryd.underlying22 Tryd.underlying5 Tryd.underlying9 (fun j hj => absurd hj (by simp))
  · obtain ⟨b, off, rfl, hc⟩ := h h0
    have := run_convert_bytes_back (P := Tryd.prog) w 22 9 5 ⟨b, off, none⟩ cap ((List.range L).map fun k => UInt8.ofNat (f k)) Tryd.underlying22 Tryd.underlying5 Tryd.underlying9 (fun j hj => by
      have e : (⟨b, off, none⟩ : Addr).add j = ⟨b, off + j, none⟩ := by unfold Addr.add; split <;> simp_all
      have hj' : j < L := by simpa using hj
      rw [e, hc j hj', by']
      simp [Nat.mod_eq_of_lt (hf j)])
    rw [List.length_map, List.length_range] at this
    exact this
theorem pp_succ (n : Nat) (d : Nat → Nat) : pp (n + 1) d = pp n d ^^^ d n := rfl
theorem qq_succ (n : Nat) (d : Nat → Nat) : qq (n + 1) d = qq n d ^^^ gm (ex n) (d n) := rfl
theorem ex_succ (n : Nat) : ex (n + 1) = gm (ex n) 2 := by rw [ex_gp, ex_gp]; rfl

theorem dataB_spec {n : Nat} {D : Nat → ByteArray} (h : dataB n D = true) : 1 ≤ n ∧ n ≤ 16 ∧ (∀ i, i < n → (D i).size = (D 0).size) ∧ (D 0).size ≤ 40 := of_decide_eq_true h

/-- The two rows of l3Parities, k disks having come, and of the next one j places. -/
structure PR (w wr : World) (L : Nat) (f g : Nat → Nat) (c1 c2 : Array Value) : Prop where
  r1 : wr.heap[w.heap.size]? = some (.cells c1 5 (0, 0))
  r2 : wr.heap[w.heap.size + 1]? = some (.cells c2 5 (0, 0))
  s1 : c1.size = L
  s2 : c2.size = L
  b1 : bys L f c1
  b2 : bys L g c2
  bel : Below w.heap.size w wr

theorem PR.set2 {w wr : World} {L : Nat} {f g f' g' : Nat → Nat} {c1 c2 : Array Value} {j : Nat} {v1 v2 : Value} (h : PR w wr L f g c1 c2) (q1 : bys L f' (c1.setIfInBounds j v1)) (q2 : bys L g' (c2.setIfInBounds j v2)) :
    PR w ((wr.setCell ⟨w.heap.size, j, none⟩ v1).setCell ⟨w.heap.size + 1, j, none⟩ v2).drew.drew L f' g' (c1.setIfInBounds j v1) (c2.setIfInBounds j v2) := by
  have l1 : w.heap.size < wr.heap.size := (Array.getElem?_eq_some_iff.1 h.r1).1
  have l2 : w.heap.size + 1 < wr.heap.size := (Array.getElem?_eq_some_iff.1 h.r2).1
  have o1 := out_setCell wr w.heap.size j v1
  have o2 := out_setCell (wr.setCell ⟨w.heap.size, j, none⟩ v1) (w.heap.size + 1) j v2
  refine ⟨?_, ?_, by simpa using h.s1, by simpa using h.s2, q1, q2, ?_⟩
  · show ((wr.setCell ⟨w.heap.size, j, none⟩ v1).setCell ⟨w.heap.size + 1, j, none⟩ v2).heap[w.heap.size]? = _
    rw [o2.block _ (Nat.lt_of_lt_of_le l1 o1.size) (by omega)]
    exact block_set h.r1
  · show ((wr.setCell ⟨w.heap.size, j, none⟩ v1).setCell ⟨w.heap.size + 1, j, none⟩ v2).heap[w.heap.size + 1]? = _
    exact block_set (by rw [o1.block _ l2 (by omega)]; exact h.r2)
  · exact ((h.bel.setCell (by simp) _).setCell (by simp) _).drew.drew

set_option maxHeartbeats 4000000 in
theorem l3Par_any (a : Option Addr) (n cap : Nat) (D : Nat → ByteArray) (w : World) (hd : dataB n D = true) (hc : At w a n fun i => .string (D i)) :
    Calls Tryd.prog 25 #[.slice a n cap] w fun e w' => e = .returned (.tuple #[.string (tx (D 0).size fun k => pp n (dby D k)), .string (tx (D 0).size fun k => qq n (dby D k))]) ∧ Below w.heap.size w w' := by
  obtain ⟨hn1, hn2, hsz, hL⟩ := dataB_spec hd
  have hmk := make_any (P := Tryd.prog) 22 5 _ 1 1 Tryd.underlying22 info5 .i64 .i64 (D 0).size (by omega) (by omega)
  obtain ⟨b, off, rfl, hcell⟩ := hc (by omega)
  have hc0 := hcell 0 (by omega)
  simp only [Nat.add_zero] at hc0
  have hc0' : ∀ o, (w.alloc o).cell? ⟨b, off, none⟩ = some (.string (D 0)) := fun o => cell_on hc0 (below_alloc w o)
  have hn0 : (0 : Int) < (n : Int) := by omega
  have HS : Hid _ := hsz
  have HC : Hid _ := hcell
  clear hsz hcell hc hd
  go_enter Tryd.func25, Tryd.ntmps25
  go_wp2
  generalize hLL : (D 0).size = L at *
  go_loopw [6, 22] (fun bv i wr => ∃ (k : Nat) (c1 c2 : Array Value), k ≤ n ∧ i = .int .i64 k ∧ bv = .int .u8 (ex k : Nat) ∧ PR w wr L (fun j => pp k (dby D j)) (fun j => qq k (dby D j)) c1 c2) (fun _ i _ => n - (intOf i).toNat)
  case atStart =>
    refine ⟨0, _, _, Nat.zero_le _, rfl, rfl, ?_, ?_, by simp [size_made], by simp [size_made], bys_made L, bys_made L, (below_alloc w _).alloc (by simp) _⟩
    · rw [Below.heap_alloc _ _ _ (by simp)]; exact heap_alloc_new _ _
    · have := heap_alloc_new (w.alloc (.cells (made (.int .u8 0) L) 5)) (.cells (made (.int .u8 0) L) 5)
      rw [World.size_alloc] at this
      exact this
  case round =>
    obtain ⟨k, c1, c2, hk, rfl, rfl, hPR⟩ := hrel
    by_cases hlt : k < n
    · have hlt' : (k : Int) < (n : Int) := by omega
      have hck := (hPR.bel.cell (p := ⟨b, off + k, none⟩) (lt_of_cell (HC.out k hlt))).trans (HC.out k hlt)
      have hDk := HS.out k hlt
      have hel := ex_lt k
      have HP : Hid _ := hPR
      clear hPR
      generalize hT : D k = T at *
      generalize hX : ex k = X at *
      go_wp2
      go_loopw [28] (fun i wr => ∃ (j : Nat) (c1 c2 : Array Value), j ≤ L ∧ i = .int .i64 j ∧ PR w wr L (mx2 (fun j => pp k (dby D j)) (fun j => pp (k + 1) (dby D j)) j) (mx2 (fun j => qq k (dby D j)) (fun j => qq (k + 1) (dby D j)) j) c1 c2) (fun i _ => L - (intOf i).toNat)
      case atStart => exact ⟨0, c1, c2, Nat.zero_le _, rfl, HP.out⟩
      case round =>
        obtain ⟨j, c1, c2, hj, rfl, hPR⟩ := hrel
        by_cases hjl : j < L
        · have hjl' : (j : Int) < (L : Int) := by omega
          have hp1 := hPR.b1 j hjl
          have hp2 := hPR.b2 j hjl
          rw [mx2_at] at hp1 hp2
          have e1 : pp (k + 1) (dby D j) = pp k (dby D j) ^^^ bb T j := by rw [pp_succ, ← hT]; rfl
          have e2 : qq (k + 1) (dby D j) = qq k (dby D j) ^^^ gm X (bb T j) := by rw [qq_succ, ← hT, ← hX]; rfl
          have hA : pp k (dby D j) < 256 := pp_lt fun i => bb_lt _ _
          have hE : qq k (dby D j) < 256 := qq_lt fun i => bb_lt _ _
          have g0 := cell_of_block hPR.r1 hp1
          have g1 := cell_of_block hPR.r2 hp2
          have f0 := free_of_block (i := j) hPR.r1
          have f1 := free_of_block (i := j) hPR.r2
          have hidx := run_idx T j (by omega)
          have hbl := bb_lt T j
          have hv1 := congrArg (fun z : Nat => Value.int .u8 (z : Int)) e1
          have hv2 := congrArg (fun z : Nat => Value.int .u8 (z : Int)) e2
          generalize hGA : pp k (dby D j) = A at *
          generalize hGE : qq k (dby D j) = E at *
          generalize hGB : bb T j = BT at *
          have hx1 := bits_u8_xor hA hbl
          have hx2 := bits_u8_xor hE (gm_lt BT hel)
          have HPR : Hid _ := hPR
          have HE1 : Hid _ := e1
          have HE2 : Hid _ := e2
          clear hPR hp1 hp2 e1 e2 hv1 hv2
          go_wp2
          go_region
          all_goals go_wp2
          all_goals go_region_with (go_at_call 51; refine (l2Mul_any X BT _ hel hbl).mono ?_; rintro e w3 ⟨rfl, rfl⟩)
          all_goals go_wp2
          all_goals
            go_roundw
            case rel =>
              have q1 := bys_step HPR.out.b1 HPR.out.s1 hjl
              have q2 := bys_step HPR.out.b2 HPR.out.s2 hjl
              rw [HE1.out] at q1
              rw [HE2.out] at q2
              exact ⟨j + 1, _, _, by omega, by go_num, HPR.out.set2 q1 q2⟩
            case measure => simp [intOf]; omega
        · obtain rfl : j = L := by omega
          have hjl' : ¬ (j : Int) < (j : Int) := by omega
          have HPR : Hid _ := hPR
          clear hPR
          have hX2 : X < 256 := hel
          go_wp2_with fail
          refine (l2Mul_any X 2 _ hel (by omega)).mono ?_
          rintro e w3 ⟨rfl, rfl⟩
          go_wp2
          go_roundw
          case rel =>
            have hP := HPR.out
            exact ⟨k + 1, c1, c2, by omega, by go_num, by rw [ex_succ, hX], hP.r1, hP.r2, hP.s1, hP.s2, bys_congr hP.b1 (fun i hi => mx2_all hi), bys_congr hP.b2 (fun i hi => mx2_all hi), hP.bel⟩
          case measure => simp [intOf]; omega
    · obtain rfl : k = n := by omega
      have hlt' : ¬ (k : Int) < (k : Int) := by omega
      have m1 : At wr (some ⟨w.heap.size, 0, none⟩) L (by' fun j => pp k (dby D j)) := fun _ => ⟨_, 0, rfl, fun i hi => by rw [Nat.zero_add]; exact cell_of_block hPR.r1 (hPR.b1 i hi)⟩
      have m2 : At wr (some ⟨w.heap.size + 1, 0, none⟩) L (by' fun j => qq k (dby D j)) := fun _ => ⟨_, 0, rfl, fun i hi => by rw [Nat.zero_add]; exact cell_of_block hPR.r2 (hPR.b2 i hi)⟩
      have v1 : ∀ m, (convert 22 9 (.slice (some ⟨w.heap.size, 0, none⟩) L L)).run Tryd.prog (wr.drewN m) = .ok (.string (tx L fun j => pp k (dby D j))) (wr.drewN m) := fun m => conv_any L (fun j => pp_lt fun i => bb_lt _ _) (m1.drewN m)
      have v2 : ∀ m, (convert 22 9 (.slice (some ⟨w.heap.size + 1, 0, none⟩) L L)).run Tryd.prog (wr.drewN m) = .ok (.string (tx L fun j => qq k (dby D j))) (wr.drewN m) := fun m => conv_any L (fun j => qq_lt fun i => bb_lt _ _) (m2.drewN m)
      have bel := hPR.bel
      clear hPR m1 m2
      go_wp2
      go_quiet (fail)
      go_wp2
      refine bodyPost_ret (v := .tuple #[.string (tx L fun j => pp k (dby D j)), .string (tx L fun j => qq k (dby D j))]) (by simp [results, Tryd.results25, go_sem]) rfl ⟨by rw [hLL], below_drewN bel _⟩
end Go.Proofs.YtgipopkjjhehlaaDoor
