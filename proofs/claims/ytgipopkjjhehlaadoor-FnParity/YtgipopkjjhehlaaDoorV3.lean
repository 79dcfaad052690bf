import Derived.Test.YtgipopkjjhehlaaDoorV2
import Derived.Test.YtgipopkjjhehlaaDoorV0
namespace Go.Proofs.YtgipopkjjhehlaaDoor
open Go.ChangeShapes Go.WideShapes Go.ChangeAt Go.RowKit Go.Shelf
set_option linter.unusedVariables false
attribute [local go_sem] Oper.semAt_some
open GF

theorem goodB_spec {n : Nat} {D : Nat → ByteArray} {P Q : ByteArray} (h : goodB n D P Q = true) : 1 ≤ n ∧ n ≤ 16 ∧ P.size ≤ 40 ∧ (∀ i, i < n → (D i).size = P.size) ∧ Q.size = P.size := of_decide_eq_true h
theorem dt_size {n : Nat} {D : Nat → ByteArray} {P Q : ByteArray} (h : goodB n D P Q = true) (i : Nat) : (dt n D P Q i).size = P.size := by
  obtain ⟨_, _, _, h1, h2⟩ := goodB_spec h
  unfold dt
  split
  · exact h1 _ ‹_›
  · split
    · rfl
    · exact h2
theorem prs_made (L : Nat) : prs L (fun _ => 0) (fun _ => 0) (made (.agg #[.int .u8 0, .int .u8 0]) (L * 2)) := by
  intro i hi
  have h1 : i * 2 < L * 2 := by omega
  have h2 : i * 2 + 1 < L * 2 := by omega
  have e1 : i * 2 % 2 = 0 := by omega
  have e2 : (i * 2 + 1) % 2 = 1 := by omega
  simp [made, madeCells, Value.cells, h1, h2, e1, e2]

theorem cell_out {B C : Nat} {w w' : World} {b o : Nat} {v : Value} (ho : Out B C w w') (h : w.cell? ⟨b, o, none⟩ = some v) (hd : b < B ∨ C ≤ b) : w'.cell? ⟨b, o, none⟩ = some v := by
  have := ho.block b (lt_of_cell h) hd
  rw [← h]; unfold World.cell?; simp only [this]
theorem Tab.out {B C : Nat} {w w' : World} (h : Tab w) (ho : Out B C w w') (hB : 0 < B) : Tab w' := by
  obtain ⟨h0, h1, h2, h3, h4, h5, h6⟩ := h
  exact ⟨cell_out ho h0 (.inl hB), cell_out ho h1 (.inl hB), cell_out ho h2 (.inl hB), cell_out ho h3 (.inl hB), cell_out ho h4 (.inl hB), cell_out ho h5 (.inl hB), cell_out ho h6 (.inl hB)⟩
theorem Tab.drew {w : World} (h : Tab w) : Tab w.drew := h
theorem Tab.set {w : World} (h : Tab w) {b : Nat} (hb : 0 < b) (o : Nat) (v : Value) : Tab (w.setCell ⟨b, o, none⟩ v) := h.out (out_setCell w b o v) hb
theorem Out.drew (B C : Nat) (w : World) : Out B C w w.drew := ⟨rfl, rfl, rfl, Nat.le_refl _, fun _ _ _ => rfl⟩
theorem mx2_all {f g : Nat → Nat} {L j : Nat} (h : j < L) : mx2 f g L j = g j := if_pos h
/-- What lies between two rounds. -/
def SI (w W0 : World) (R L : Nat) (n : Nat) (D : Nat → ByteArray) (P Q : ByteArray) (pre : List (Fin (n + 2))) (W : World) : Prop :=
  Below w.heap.size w W ∧ Kq W0.heap.size R W0 W ∧ W0.heap.size ≤ W.heap.size ∧ ∃ c, W.heap[R]? = some (.cells c 58 (0, 0)) ∧ c.size = L * 2 ∧ prs L (acp n D P Q pre) (acq n D P Q pre) c
theorem SI_own {w W0 : World} {R L : Nat} {n : Nat} {D : Nat → ByteArray} {P Q : ByteArray} (hw : w.heap.size ≤ W0.heap.size) (hR : R < W0.heap.size) : OwnFrom W0.heap.size (SI w W0 R L n D P Q) := by
  rintro s A B row ⟨h1, h2, h3, c, h4, h5, h6⟩ hg hr
  refine ⟨h1.grown hg (by omega) (fun k e => by have := (hr k e).1; omega), fun k hk hx => (grown_kq hg h3 hr k hk).trans (h2 k hk hx), by have := hg.size; omega, c, by rw [grown_kq hg h3 hr R hR]; exact h4, h5, h6⟩

set_option maxRecDepth 100000 in
set_option maxHeartbeats 4000000 in
theorem sumsOf_any (a : Option Addr) (n cap : Nat) (D : Nat → ByteArray) (P Q : ByteArray) (w : World) (hg : goodB n D P Q = true) (hc : At w a n fun i => .string (D i)) (ht : Tab w) (hz0 : 0 < w.heap.size) :
    Calls Tryd.prog 27 #[sv a n cap P Q] w fun e w' => Below w.heap.size w w' ∧ ∃ x cx, e = .returned (.slice x P.size cx) ∧ Mine w' w.heap.size w'.heap.size 58 P.size x (prs P.size (fun k => sp n (dby D k) (bb P k)) (fun k => sq' n (dby D k) (bb Q k))) := by
  unfold sv
  obtain ⟨hn1, hn2, hL, _, _⟩ := goodB_spec hg
  have hmk := make_any (P := Tryd.prog) 55 58 _ 2 2 Tryd.underlying55 info54 .i64 .i64 P.size (by omega) (by omega)
  refine (callsIn_wide (n := 8)).1 ?_
  refine callsIn_of_wp_marks Tryd.func27 rfl trivial ?_ rfl
  simp only [Tryd.ntmps27, List.size_toArray, List.length_cons, List.length_nil, Nat.reduceAdd, Nat.reduceSub, Array.replicate_succ, Array.replicate_zero, List.push_toArray, List.append_toArray, List.nil_append, List.cons_append]
  obtain ⟨W0, hW0⟩ : ∃ W0, (((w.alloc (.cells #[.slice a n cap, .string P, .string Q] 26)).alloc (.cells (made (.agg #[.int .u8 0, .int .u8 0]) (P.size * 2)) 58)).alloc (.cells #[.slice (some ⟨w.heap.size + 1, 0, none⟩) P.size P.size] 55)).alloc (.cells #[.slice a n cap, .string P, .string Q] 26) = W0 := ⟨_, rfl⟩
  gi_wp2_with (refine ⟨trivial, ?_⟩; gi_at_call 28; refine (disksOf_any Fence.wide _ trivial rfl a n cap P Q _).mono ?_; rintro e w' ⟨rfl, rfl⟩)
  have hB0 : Below w.heap.size w W0 := by rw [← hW0]; exact (((below_alloc w _).alloc (by simp) _).alloc (by simp; omega) _).alloc (by simp; omega) _
  have hsz : W0.heap.size = w.heap.size + 4 := by rw [← hW0]; simp
  have c00 : W0.cell? ⟨w.heap.size, 0, none⟩ = some (.slice a n cap) := by rw [← hW0]; simp [go_sem]
  have c01 : W0.cell? ⟨w.heap.size, 1, none⟩ = some (.string P) := by rw [← hW0]; simp [go_sem]
  have c02 : W0.cell? ⟨w.heap.size, 2, none⟩ = some (.string Q) := by rw [← hW0]; simp [go_sem]
  have c20 : W0.cell? ⟨w.heap.size + 1 + 1, 0, none⟩ = some (.slice (some ⟨w.heap.size + 1, 0, none⟩) P.size P.size) := by rw [← hW0]; simp [go_sem]
  have c30 : W0.cell? ⟨w.heap.size + 1 + 1 + 1, 0, none⟩ = some (.slice a n cap) := by rw [← hW0]; simp [go_sem]
  have c31 : W0.cell? ⟨w.heap.size + 1 + 1 + 1, 1, none⟩ = some (.string P) := by rw [← hW0]; simp [go_sem]
  have c32 : W0.cell? ⟨w.heap.size + 1 + 1 + 1, 2, none⟩ = some (.string Q) := by rw [← hW0]; simp [go_sem]
  have r10 : W0.heap[w.heap.size + 1]? = some (.cells (made (.agg #[.int .u8 0, .int .u8 0]) (P.size * 2)) 58 (0, 0)) := by
    rw [← hW0]
    have := heap_alloc_new (w.alloc (.cells #[.slice a n cap, .string P, .string Q] 26)) (.cells (made (.agg #[.int .u8 0, .int .u8 0]) (P.size * 2)) 58)
    rw [World.size_alloc] at this
    rw [Below.heap_alloc _ _ _ (by simp), Below.heap_alloc _ _ _ (by simp)]
    exact this
  have hSb : Sb W0 W0.heap.size (w.heap.size + 1) (w.heap.size + 1 + 1 + 1) a n cap D P Q := ⟨by omega, by omega, c30, c31, c32, fun h => by
    obtain ⟨b, off, e, hcs⟩ := hc h
    have hlt := lt_of_cell (hcs 0 (by omega))
    exact ⟨b, off, e, by omega, by omega, fun i hi => (hB0.cell (p := ⟨b, off + i, none⟩) hlt).trans (hcs i hi)⟩⟩
  clear hW0 hc c30 c31 c32 hmk
  refine wpIn_rangeFunc_ownF rfl (by omega) (gf := 52) (lb := #[.pointer (some ⟨w.heap.size + 1 + 1 + 1, 0, none⟩)]) rfl trivial (enters_of Tryd.func52 (by kernel_rfl) rfl)
    (disks_stops Fence.wide _ trivial rfl (by omega) W0.heap.size (w.heap.size + 1) (w.heap.size + 1 + 1 + 1) a n cap D P Q (by omega) W0 (Nat.le_refl _) hSb) Kq.trans (Kq.put (Nat.le_refl _)) (Below.refl _ _) (fun _ => rfl)
    (SI w W0 (w.heap.size + 1) P.size n D P Q) (fun _ _ _ => False) (SI_own (by omega) (by omega)) (fun _ _ _ _ _ hs _ _ => hs)
    ⟨hB0, Kq.refl _ _ _, Nat.le_refl _, _, r10, by simp [size_made], prs_made _⟩
    (fun x => { tmps := #[.agg #[.slice a n cap, .string P, .string Q], .pointer (some ⟨w.heap.size, 0, none⟩), .slice none 0 0, .pointer (some ⟨w.heap.size + 1 + 1, 0, none⟩), .int .i64 (x.1 : Int), .string (dt n D P Q x.1), undef, undef, .pointer (some ⟨w.heap.size, 1, none⟩), .string P, .int .i64 P.size, .slice (some ⟨w.heap.size + 1, 0, none⟩) P.size P.size, .agg #[.slice a n cap, .string P, .string Q], .func (.func 52) #[] #[.pointer (some ⟨w.heap.size + 1 + 1 + 1, 0, none⟩)], .int .i64 (x.1 : Int), .string (dt n D P Q x.1), undef, undef, undef, undef, undef, undef, undef, undef, undef, undef, undef, undef, undef, undef, undef, undef, undef, undef, undef, undef, undef, undef, undef, undef, undef, undef, undef, undef, undef, undef, undef, undef, undef, undef, undef, undef, undef, undef], defers := [] }) ?assign ?body ?done ?stop
  case assign =>
    intro l x W K hK
    gi_wp2
    exact hK
  case body =>
    rintro l pre x W ⟨hB, hK, hge, c, hR, hcs, hst⟩ _
    have y0 : W.cell? ⟨w.heap.size, 0, none⟩ = some (.slice a n cap) := (hK.cell (by omega) (by omega)).trans c00
    have y1 : W.cell? ⟨w.heap.size, 1, none⟩ = some (.string P) := (hK.cell (by omega) (by omega)).trans c01
    have y2 : W.cell? ⟨w.heap.size, 2, none⟩ = some (.string Q) := (hK.cell (by omega) (by omega)).trans c02
    have y3 : W.cell? ⟨w.heap.size + 1 + 1, 0, none⟩ = some (.slice (some ⟨w.heap.size + 1, 0, none⟩) P.size P.size) := (hK.cell (by omega) (by omega)).trans c20
    have hzW : 0 < W.heap.size := by omega
    have HR : Hid _ := hR
    have HK : Hid _ := hK
    clear hR hK hSb c00 c01 c02 c20 r10
    have hcts := countsOf_any a n cap P Q x.1 W (by omega) x.2 (ht.below hB hz0) hzW
    gi_wp2_with (refine ⟨trivial, ?_⟩; gi_at_call 30; refine (CallsIn.inRound l (callsIn_wide.2 hcts)).mono ?_; rintro e w1 ⟨rfl, b1⟩; obtain ⟨W2, hW2⟩ : ∃ W2, w1.alloc (.cells #[.int .u8 (cp n x.1 : Int), .int .u8 (cq n x.1 : Int)] 58) = W2 := ⟨_, rfl⟩; have b2 : Below W.heap.size W W2 := (by rw [← hW2]; exact Below.comp b1 (below_alloc _ _)); have y3' := cell_on y3 b2; have d0 : W2.cell? ⟨w1.heap.size, 0, none⟩ = some (.int .u8 (cp n x.1 : Int)) := (by rw [← hW2]; simp [go_sem]); have d1 : W2.cell? ⟨w1.heap.size, 1, none⟩ = some (.int .u8 (cq n x.1 : Int)) := (by rw [← hW2]; simp [go_sem]); have zw1 : W.heap.size ≤ w1.heap.size := b1.size)
    have HR2 : Hid (W2.heap[w.heap.size + 1]? = some (.cells c 58 (0, 0))) := (b2.block _ (by omega)).trans HR.out
    have B2 : Below w.heap.size w W2 := hB.trans (b2.mono (by omega))
    clear hW2 hcts b1 y0 y1 y2 y3
    have hlen : (dt n D P Q x.1).size = P.size := dt_size hg x.1
    have hcCP := cp_lt n x.1
    have hcCQ := cq_lt n x.1
    generalize hT : dt n D P Q x.1 = T at *
    generalize hcp : cp n x.1 = CP at *
    generalize hcq : cq n x.1 = CQ at *
    generalize hbk : w1.heap.size = BK at *
    gi_loopw [21] (fun i wr => ∃ (k : Nat) (c : Array Value), k ≤ P.size ∧ i = .int .i64 k ∧ wr.heap[w.heap.size + 1]? = some (.cells c 58 (0, 0)) ∧ c.size = P.size * 2 ∧ prs P.size (mx2 (acp n D P Q pre) (acp n D P Q (pre ++ [x])) k) (mx2 (acq n D P Q pre) (acq n D P Q (pre ++ [x])) k) c ∧ Out (w.heap.size + 1) (w.heap.size + 2) W2 wr) (fun i _ => P.size - (intOf i).toNat)
    case atStart => exact ⟨0, c, Nat.zero_le _, rfl, HR2.out, hcs, hst, Out.refl _ _ _⟩
    case round =>
      obtain ⟨k, c', hk, rfl, hR', hcs', hst', ho⟩ := hrel
      by_cases hlt : k < P.size
      · have hlt' : (k : Int) < (P.size : Int) := by omega
        obtain ⟨hp1, hp2⟩ := hst' k hlt
        rw [mx2_at] at hp1 hp2
        have hA := acp_lt n D P Q pre k
        have hE := acq_lt n D P Q pre k
        have e1 : acp n D P Q (pre ++ [x]) k = acp n D P Q pre k ^^^ gm CP (bb T k) := by rw [acp_snoc, hT, hcp]
        have e2 : acq n D P Q (pre ++ [x]) k = acq n D P Q pre k ^^^ gm CQ (bb T k) := by rw [acq_snoc, hT, hcq]
        have g0 := cell_of_block hR' hp1
        have g1 := cell_of_block hR' hp2
        have f0 := free_of_block (i := k * 2) hR'
        have f1 := free_of_block (i := k * 2 + 1) hR'
        have y3'' := cell_out ho y3' (by omega)
        have d0' := cell_out ho d0 (by omega)
        have d1' := cell_out ho d1 (by omega)
        have TW : Hid (Tab wr) := ((ht.below B2 hz0).out ho (by omega))
        have hidx := run_idx T k (by omega)
        have hbl := bb_lt T k
        generalize hGA : acp n D P Q pre k = A at *
        generalize hGE : acq n D P Q pre k = E at *
        generalize hGB : bb T k = BT at *
        have hx1 := bits_u8_xor hA (gm_lt BT hcCP)
        have hx2 := bits_u8_xor hE (gm_lt BT hcCQ)
        have HR' : Hid _ := hR'
        have HE1 : Hid _ := e1
        have HE2 : Hid _ := e2
        have HP2 : Hid _ := hp2
        clear hR' hp1 hp2 e1 e2 y3' d0 d1
        have hmx : Tryd.prog.follows .mixedOrders = true := by kernel_rfl
        gi_wp2
        refine wpIn_region_heldR (fun v => v.cell? ⟨w.heap.size + 1 + 1, 0, none⟩ = some (.slice (some ⟨w.heap.size + 1, 0, none⟩) P.size P.size) ∧ v.cell? ⟨BK, 0, none⟩ = some (.int .u8 (CP : Int)) ∧ v.cell? ⟨BK, 1, none⟩ = some (.int .u8 (CQ : Int)) ∧ Hid (Tab v)) 15 hmx (by kernel_rfl) rfl (by rintro ⟨_, _, h⟩; exact h) ⟨y3'', d0', d1', TW⟩ (fun hS => ?_)
        refine tkH (i := 0) (d := 24) (v := ?_) rfl rfl (by kernel_rfl) (by kernel_rfl) (by kernel_rfl) (fun _ _ _ h => h) (Or.inl ⟨by rfl, by intro wq hSq; obtain ⟨s0, s1, s2, s3⟩ := hSq; go_simp; try with_reducible rfl⟩) hS ?_
        simp only [List.setIfInBounds_toArray, List.set_cons_zero, List.set_cons_succ]
        refine tkH (i := 1) (d := 25) (v := ?_) rfl rfl (by kernel_rfl) (by kernel_rfl) (by kernel_rfl) (fun _ _ _ h => h) (Or.inl ⟨by rfl, by intro wq hSq; obtain ⟨s0, s1, s2, s3⟩ := hSq; go_simp; try with_reducible rfl⟩) hS ?_
        simp only [List.setIfInBounds_toArray, List.set_cons_zero, List.set_cons_succ]
        refine tkH (i := 2) (d := 26) (v := ?_) rfl rfl (by kernel_rfl) (by kernel_rfl) (by kernel_rfl) (fun _ _ _ h => h) (Or.inl ⟨by rfl, by intro wq hSq; obtain ⟨s0, s1, s2, s3⟩ := hSq; go_simp; try with_reducible rfl⟩) hS ?_
        simp only [List.setIfInBounds_toArray, List.set_cons_zero, List.set_cons_succ]
        refine tkH (i := 3) (d := 27) (v := ?_) rfl rfl (by kernel_rfl) (by kernel_rfl) (by kernel_rfl) (fun _ _ _ h => h) (Or.inl ⟨by rfl, by intro wq hSq; obtain ⟨s0, s1, s2, s3⟩ := hSq; go_simp; try with_reducible rfl⟩) hS ?_
        simp only [List.setIfInBounds_toArray, List.set_cons_zero, List.set_cons_succ]
        refine tkH (i := 5) (d := 29) (v := ?_) rfl rfl (by kernel_rfl) (by kernel_rfl) (by kernel_rfl) (fun _ _ _ h => h) (Or.inl ⟨by rfl, by intro wq hSq; obtain ⟨s0, s1, s2, s3⟩ := hSq; go_simp; try with_reducible rfl⟩) hS ?_
        simp only [List.setIfInBounds_toArray, List.set_cons_zero, List.set_cons_succ]
        refine tkH (i := 6) (d := 30) (v := ?_) rfl rfl (by kernel_rfl) (by kernel_rfl) (by kernel_rfl) (fun _ _ _ h => h) (Or.inl ⟨by rfl, by intro wq hSq; obtain ⟨s0, s1, s2, s3⟩ := hSq; go_simp; try with_reducible rfl⟩) hS ?_
        simp only [List.setIfInBounds_toArray, List.set_cons_zero, List.set_cons_succ]
        refine tkH (i := 7) (d := 31) (v := ?_) rfl rfl (by kernel_rfl) (by kernel_rfl) (by kernel_rfl) (fun _ _ _ h => h) (Or.inl ⟨by rfl, by intro wq hSq; obtain ⟨s0, s1, s2, s3⟩ := hSq; go_simp; try with_reducible rfl⟩) hS ?_
        simp only [List.setIfInBounds_toArray, List.set_cons_zero, List.set_cons_succ]
        refine tkH (i := 8) (d := 32) (v := ?_) rfl rfl (by kernel_rfl) (by kernel_rfl) (by kernel_rfl) (fun _ _ _ h => h) (Or.inl ⟨by rfl, by intro wq hSq; obtain ⟨s0, s1, s2, s3⟩ := hSq; go_simp; try with_reducible rfl⟩) hS ?_
        simp only [List.setIfInBounds_toArray, List.set_cons_zero, List.set_cons_succ]
        refine tkH (i := 9) (d := 33) (v := ?_) rfl rfl (by kernel_rfl) (by kernel_rfl) (by kernel_rfl) (fun _ _ _ h => h) (Or.inl ⟨by rfl, by intro wq hSq; obtain ⟨s0, s1, s2, s3⟩ := hSq; go_simp; try with_reducible rfl⟩) hS ?_
        simp only [List.setIfInBounds_toArray, List.set_cons_zero, List.set_cons_succ]
        refine wpAnyH_ready (rs := [4, 10]) (by kernel_rfl) (by simp) (AllReadyH.cons rfl (fun K hK => ?_) (AllReadyH.cons rfl (fun K hK => ?_) AllReadyH.nil))
        · go_simp
          refine hK.out _ _ hS (fun hS => ?_)
          clear hK K
          refine wpAnyH_ready (rs := [10]) (by kernel_rfl) (by simp) (AllReadyH.cons rfl (fun K hK => ?_) AllReadyH.nil)
          go_simp
          refine (fieldMul_any CP BT _ hcCP hbl hS.2.2.2.out).mono ?_
          rintro e w3 ⟨rfl, rfl⟩
          refine hK.out _ _ hS (fun hS => ?_)
          clear hK K
          refine tkH (i := 11) (d := 35) (v := ?_) rfl rfl (by kernel_rfl) (by kernel_rfl) (by kernel_rfl) (fun _ _ _ h => h) (Or.inl ⟨by rfl, by intro wq hSq; obtain ⟨s0, s1, s2, s3⟩ := hSq; go_simp; try with_reducible rfl⟩) hS ?_
          simp only [List.setIfInBounds_toArray, List.set_cons_zero, List.set_cons_succ]
          refine tkH (i := 12) (d := 36) (v := ?_) rfl rfl (by kernel_rfl) (by kernel_rfl) (by kernel_rfl) (fun _ _ _ h => h) (Or.inl ⟨by rfl, by intro wq hSq; obtain ⟨s0, s1, s2, s3⟩ := hSq; go_simp; try with_reducible rfl⟩) hS ?_
          simp only [List.setIfInBounds_toArray, List.set_cons_zero, List.set_cons_succ]
          refine tkH (i := 13) (d := 37) (v := ?_) rfl rfl (by kernel_rfl) (by kernel_rfl) (by kernel_rfl) (fun _ _ _ h => h) (Or.inl ⟨by rfl, by intro wq hSq; obtain ⟨s0, s1, s2, s3⟩ := hSq; go_simp; try with_reducible rfl⟩) hS ?_
          simp only [List.setIfInBounds_toArray, List.set_cons_zero, List.set_cons_succ]
          refine wpAnyH_ready (rs := [14]) (by kernel_rfl) (by simp) (AllReadyH.cons rfl (fun K hK => ?_) AllReadyH.nil)
          go_simp
          refine hK.out _ _ ⟨cell_out ((out_setCell wr (w.heap.size + 1) (k * 2) _).trans (Out.drew _ _ _)) y3'' (by omega), cell_out ((out_setCell wr (w.heap.size + 1) (k * 2) _).trans (Out.drew _ _ _)) d0' (by omega), cell_out ((out_setCell wr (w.heap.size + 1) (k * 2) _).trans (Out.drew _ _ _)) d1' (by omega), (Tab.set TW.out (by omega) _ _).drew⟩ (fun hS => ?_)
          clear hK K
          refine wpAnyH_done (by kernel_rfl) ?_ _
          have HR4 : Hid ((wr.setCell ⟨w.heap.size + 1, k * 2, none⟩ (.int .u8 ((A ^^^ gm CP BT : Nat) : Int))).drew.heap[w.heap.size + 1]? = some (.cells (c'.setIfInBounds (k * 2) (.int .u8 ((A ^^^ gm CP BT : Nat) : Int))) 58 (0, 0))) := block_set (w := wr) HR'.out
          have o4 : Out (w.heap.size + 1) (w.heap.size + 2) W2 (wr.setCell ⟨w.heap.size + 1, k * 2, none⟩ (.int .u8 ((A ^^^ gm CP BT : Nat) : Int))).drew := (ho.trans (out_setCell _ _ _ _)).trans (Out.drew _ _ _)
          generalize (wr.setCell ⟨w.heap.size + 1, k * 2, none⟩ (.int .u8 ((A ^^^ gm CP BT : Nat) : Int))).drew = w4 at hS HR4 o4 ⊢
          have g1' : w4.cell? ⟨w.heap.size + 1, k * 2 + 1, none⟩ = some (.int .u8 (E : Int)) := cell_of_block HR4.out (by rw [Array.getElem?_setIfInBounds, if_neg (by omega)]; exact HP2.out)
          have f1' := free_of_block (i := k * 2 + 1) HR4.out
          have hS4 := hS
          clear g0 g1 f0 f1
          gi_wp2
          refine wpIn_region_heldR (fun v => v.cell? ⟨w.heap.size + 1 + 1, 0, none⟩ = some (.slice (some ⟨w.heap.size + 1, 0, none⟩) P.size P.size) ∧ v.cell? ⟨BK, 0, none⟩ = some (.int .u8 (CP : Int)) ∧ v.cell? ⟨BK, 1, none⟩ = some (.int .u8 (CQ : Int)) ∧ Hid (Tab v)) 15 hmx (by kernel_rfl) rfl (by rintro ⟨_, _, h⟩; exact h) hS (fun hS => ?_)
          refine tkH (i := 0) (d := 38) (v := ?_) rfl rfl (by kernel_rfl) (by kernel_rfl) (by kernel_rfl) (fun _ _ _ h => h) (Or.inl ⟨by rfl, by intro wq hSq; obtain ⟨s0, s1, s2, s3⟩ := hSq; go_simp; try with_reducible rfl⟩) hS ?_
          simp only [List.setIfInBounds_toArray, List.set_cons_zero, List.set_cons_succ]
          refine tkH (i := 1) (d := 39) (v := ?_) rfl rfl (by kernel_rfl) (by kernel_rfl) (by kernel_rfl) (fun _ _ _ h => h) (Or.inl ⟨by rfl, by intro wq hSq; obtain ⟨s0, s1, s2, s3⟩ := hSq; go_simp; try with_reducible rfl⟩) hS ?_
          simp only [List.setIfInBounds_toArray, List.set_cons_zero, List.set_cons_succ]
          refine tkH (i := 2) (d := 40) (v := ?_) rfl rfl (by kernel_rfl) (by kernel_rfl) (by kernel_rfl) (fun _ _ _ h => h) (Or.inl ⟨by rfl, by intro wq hSq; obtain ⟨s0, s1, s2, s3⟩ := hSq; go_simp; try with_reducible rfl⟩) hS ?_
          simp only [List.setIfInBounds_toArray, List.set_cons_zero, List.set_cons_succ]
          refine tkH (i := 3) (d := 41) (v := ?_) rfl rfl (by kernel_rfl) (by kernel_rfl) (by kernel_rfl) (fun _ _ _ h => h) (Or.inl ⟨by rfl, by intro wq hSq; obtain ⟨s0, s1, s2, s3⟩ := hSq; go_simp; try with_reducible rfl⟩) hS ?_
          simp only [List.setIfInBounds_toArray, List.set_cons_zero, List.set_cons_succ]
          refine tkH (i := 5) (d := 43) (v := ?_) rfl rfl (by kernel_rfl) (by kernel_rfl) (by kernel_rfl) (fun _ _ _ h => h) (Or.inl ⟨by rfl, by intro wq hSq; obtain ⟨s0, s1, s2, s3⟩ := hSq; go_simp; try with_reducible rfl⟩) hS ?_
          simp only [List.setIfInBounds_toArray, List.set_cons_zero, List.set_cons_succ]
          refine tkH (i := 6) (d := 44) (v := ?_) rfl rfl (by kernel_rfl) (by kernel_rfl) (by kernel_rfl) (fun _ _ _ h => h) (Or.inl ⟨by rfl, by intro wq hSq; obtain ⟨s0, s1, s2, s3⟩ := hSq; go_simp; try with_reducible rfl⟩) hS ?_
          simp only [List.setIfInBounds_toArray, List.set_cons_zero, List.set_cons_succ]
          refine tkH (i := 7) (d := 45) (v := ?_) rfl rfl (by kernel_rfl) (by kernel_rfl) (by kernel_rfl) (fun _ _ _ h => h) (Or.inl ⟨by rfl, by intro wq hSq; obtain ⟨s0, s1, s2, s3⟩ := hSq; go_simp; try with_reducible rfl⟩) hS ?_
          simp only [List.setIfInBounds_toArray, List.set_cons_zero, List.set_cons_succ]
          refine tkH (i := 8) (d := 46) (v := ?_) rfl rfl (by kernel_rfl) (by kernel_rfl) (by kernel_rfl) (fun _ _ _ h => h) (Or.inl ⟨by rfl, by intro wq hSq; obtain ⟨s0, s1, s2, s3⟩ := hSq; go_simp; try with_reducible rfl⟩) hS ?_
          simp only [List.setIfInBounds_toArray, List.set_cons_zero, List.set_cons_succ]
          refine tkH (i := 9) (d := 47) (v := ?_) rfl rfl (by kernel_rfl) (by kernel_rfl) (by kernel_rfl) (fun _ _ _ h => h) (Or.inl ⟨by rfl, by intro wq hSq; obtain ⟨s0, s1, s2, s3⟩ := hSq; go_simp; try with_reducible rfl⟩) hS ?_
          simp only [List.setIfInBounds_toArray, List.set_cons_zero, List.set_cons_succ]
          refine wpAnyH_ready (rs := [4, 10]) (by kernel_rfl) (by simp) (AllReadyH.cons rfl (fun K hK => ?_) (AllReadyH.cons rfl (fun K hK => ?_) AllReadyH.nil))
          · go_simp
            refine hK.out _ _ hS (fun hS => ?_)
            clear hK K
            refine wpAnyH_ready (rs := [10]) (by kernel_rfl) (by simp) (AllReadyH.cons rfl (fun K hK => ?_) AllReadyH.nil)
            go_simp
            refine (fieldMul_any CQ BT _ hcCQ hbl hS.2.2.2.out).mono ?_
            rintro e w3 ⟨rfl, rfl⟩
            refine hK.out _ _ hS (fun hS => ?_)
            clear hK K
            refine tkH (i := 11) (d := 49) (v := ?_) rfl rfl (by kernel_rfl) (by kernel_rfl) (by kernel_rfl) (fun _ _ _ h => h) (Or.inl ⟨by rfl, by intro wq hSq; obtain ⟨s0, s1, s2, s3⟩ := hSq; go_simp; try with_reducible rfl⟩) hS ?_
            simp only [List.setIfInBounds_toArray, List.set_cons_zero, List.set_cons_succ]
            refine tkH (i := 12) (d := 50) (v := ?_) rfl rfl (by kernel_rfl) (by kernel_rfl) (by kernel_rfl) (fun _ _ _ h => h) (Or.inl ⟨by rfl, by intro wq hSq; obtain ⟨s0, s1, s2, s3⟩ := hSq; go_simp; try with_reducible rfl⟩) hS ?_
            simp only [List.setIfInBounds_toArray, List.set_cons_zero, List.set_cons_succ]
            refine tkH (i := 13) (d := 51) (v := ?_) rfl rfl (by kernel_rfl) (by kernel_rfl) (by kernel_rfl) (fun _ _ _ h => h) (Or.inl ⟨by rfl, by intro wq hSq; obtain ⟨s0, s1, s2, s3⟩ := hSq; go_simp; try with_reducible rfl⟩) hS ?_
            simp only [List.setIfInBounds_toArray, List.set_cons_zero, List.set_cons_succ]
            refine wpAnyH_ready (rs := [14]) (by kernel_rfl) (by simp) (AllReadyH.cons rfl (fun K hK => ?_) AllReadyH.nil)
            go_simp
            refine hK.out _ _ ⟨cell_out ((out_setCell w4 (w.heap.size + 1) (k * 2 + 1) _).trans (Out.drew _ _ _)) hS4.1 (by omega), cell_out ((out_setCell w4 (w.heap.size + 1) (k * 2 + 1) _).trans (Out.drew _ _ _)) hS4.2.1 (by omega), cell_out ((out_setCell w4 (w.heap.size + 1) (k * 2 + 1) _).trans (Out.drew _ _ _)) hS4.2.2.1 (by omega), (Tab.set hS4.2.2.2.out (by omega) _ _).drew⟩ (fun hS => ?_)
            clear hK K
            refine wpAnyH_done (by kernel_rfl) ?_ _
            gi_wp2
            go_roundw
            case rel =>
              refine ⟨k + 1, _, by omega, by go_num, block_set (w := w4) HR4.out, by simpa using hcs', ?_, ((o4.trans (out_setCell _ _ _ _)).trans (Out.drew _ _ _))⟩
              have hq := prs_step hst' hcs' hlt
              rw [HE1.out, HE2.out] at hq
              exact hq
            case measure => simp [intOf]; omega
          · go_simp
            refine (fieldMul_any CQ BT _ hcCQ hbl hS.2.2.2.out).mono ?_
            rintro e w3 ⟨rfl, rfl⟩
            refine hK.out _ _ hS (fun hS => ?_)
            clear hK K
            refine wpAnyH_ready (rs := [4]) (by kernel_rfl) (by simp) (AllReadyH.cons rfl (fun K hK => ?_) AllReadyH.nil)
            go_simp
            refine hK.out _ _ hS (fun hS => ?_)
            clear hK K
            refine tkH (i := 11) (d := 49) (v := ?_) rfl rfl (by kernel_rfl) (by kernel_rfl) (by kernel_rfl) (fun _ _ _ h => h) (Or.inl ⟨by rfl, by intro wq hSq; obtain ⟨s0, s1, s2, s3⟩ := hSq; go_simp; try with_reducible rfl⟩) hS ?_
            simp only [List.setIfInBounds_toArray, List.set_cons_zero, List.set_cons_succ]
            refine tkH (i := 12) (d := 50) (v := ?_) rfl rfl (by kernel_rfl) (by kernel_rfl) (by kernel_rfl) (fun _ _ _ h => h) (Or.inl ⟨by rfl, by intro wq hSq; obtain ⟨s0, s1, s2, s3⟩ := hSq; go_simp; try with_reducible rfl⟩) hS ?_
            simp only [List.setIfInBounds_toArray, List.set_cons_zero, List.set_cons_succ]
            refine tkH (i := 13) (d := 51) (v := ?_) rfl rfl (by kernel_rfl) (by kernel_rfl) (by kernel_rfl) (fun _ _ _ h => h) (Or.inl ⟨by rfl, by intro wq hSq; obtain ⟨s0, s1, s2, s3⟩ := hSq; go_simp; try with_reducible rfl⟩) hS ?_
            simp only [List.setIfInBounds_toArray, List.set_cons_zero, List.set_cons_succ]
            refine wpAnyH_ready (rs := [14]) (by kernel_rfl) (by simp) (AllReadyH.cons rfl (fun K hK => ?_) AllReadyH.nil)
            go_simp
            refine hK.out _ _ ⟨cell_out ((out_setCell w4 (w.heap.size + 1) (k * 2 + 1) _).trans (Out.drew _ _ _)) hS4.1 (by omega), cell_out ((out_setCell w4 (w.heap.size + 1) (k * 2 + 1) _).trans (Out.drew _ _ _)) hS4.2.1 (by omega), cell_out ((out_setCell w4 (w.heap.size + 1) (k * 2 + 1) _).trans (Out.drew _ _ _)) hS4.2.2.1 (by omega), (Tab.set hS4.2.2.2.out (by omega) _ _).drew⟩ (fun hS => ?_)
            clear hK K
            refine wpAnyH_done (by kernel_rfl) ?_ _
            gi_wp2
            go_roundw
            case rel =>
              refine ⟨k + 1, _, by omega, by go_num, block_set (w := w4) HR4.out, by simpa using hcs', ?_, ((o4.trans (out_setCell _ _ _ _)).trans (Out.drew _ _ _))⟩
              have hq := prs_step hst' hcs' hlt
              rw [HE1.out, HE2.out] at hq
              exact hq
            case measure => simp [intOf]; omega
        · go_simp
          refine (fieldMul_any CP BT _ hcCP hbl hS.2.2.2.out).mono ?_
          rintro e w3 ⟨rfl, rfl⟩
          refine hK.out _ _ hS (fun hS => ?_)
          clear hK K
          refine wpAnyH_ready (rs := [4]) (by kernel_rfl) (by simp) (AllReadyH.cons rfl (fun K hK => ?_) AllReadyH.nil)
          go_simp
          refine hK.out _ _ hS (fun hS => ?_)
          clear hK K
          refine tkH (i := 11) (d := 35) (v := ?_) rfl rfl (by kernel_rfl) (by kernel_rfl) (by kernel_rfl) (fun _ _ _ h => h) (Or.inl ⟨by rfl, by intro wq hSq; obtain ⟨s0, s1, s2, s3⟩ := hSq; go_simp; try with_reducible rfl⟩) hS ?_
          simp only [List.setIfInBounds_toArray, List.set_cons_zero, List.set_cons_succ]
          refine tkH (i := 12) (d := 36) (v := ?_) rfl rfl (by kernel_rfl) (by kernel_rfl) (by kernel_rfl) (fun _ _ _ h => h) (Or.inl ⟨by rfl, by intro wq hSq; obtain ⟨s0, s1, s2, s3⟩ := hSq; go_simp; try with_reducible rfl⟩) hS ?_
          simp only [List.setIfInBounds_toArray, List.set_cons_zero, List.set_cons_succ]
          refine tkH (i := 13) (d := 37) (v := ?_) rfl rfl (by kernel_rfl) (by kernel_rfl) (by kernel_rfl) (fun _ _ _ h => h) (Or.inl ⟨by rfl, by intro wq hSq; obtain ⟨s0, s1, s2, s3⟩ := hSq; go_simp; try with_reducible rfl⟩) hS ?_
          simp only [List.setIfInBounds_toArray, List.set_cons_zero, List.set_cons_succ]
          refine wpAnyH_ready (rs := [14]) (by kernel_rfl) (by simp) (AllReadyH.cons rfl (fun K hK => ?_) AllReadyH.nil)
          go_simp
          refine hK.out _ _ ⟨cell_out ((out_setCell wr (w.heap.size + 1) (k * 2) _).trans (Out.drew _ _ _)) y3'' (by omega), cell_out ((out_setCell wr (w.heap.size + 1) (k * 2) _).trans (Out.drew _ _ _)) d0' (by omega), cell_out ((out_setCell wr (w.heap.size + 1) (k * 2) _).trans (Out.drew _ _ _)) d1' (by omega), (Tab.set TW.out (by omega) _ _).drew⟩ (fun hS => ?_)
          clear hK K
          refine wpAnyH_done (by kernel_rfl) ?_ _
          have HR4 : Hid ((wr.setCell ⟨w.heap.size + 1, k * 2, none⟩ (.int .u8 ((A ^^^ gm CP BT : Nat) : Int))).drew.heap[w.heap.size + 1]? = some (.cells (c'.setIfInBounds (k * 2) (.int .u8 ((A ^^^ gm CP BT : Nat) : Int))) 58 (0, 0))) := block_set (w := wr) HR'.out
          have o4 : Out (w.heap.size + 1) (w.heap.size + 2) W2 (wr.setCell ⟨w.heap.size + 1, k * 2, none⟩ (.int .u8 ((A ^^^ gm CP BT : Nat) : Int))).drew := (ho.trans (out_setCell _ _ _ _)).trans (Out.drew _ _ _)
          generalize (wr.setCell ⟨w.heap.size + 1, k * 2, none⟩ (.int .u8 ((A ^^^ gm CP BT : Nat) : Int))).drew = w4 at hS HR4 o4 ⊢
          have g1' : w4.cell? ⟨w.heap.size + 1, k * 2 + 1, none⟩ = some (.int .u8 (E : Int)) := cell_of_block HR4.out (by rw [Array.getElem?_setIfInBounds, if_neg (by omega)]; exact HP2.out)
          have f1' := free_of_block (i := k * 2 + 1) HR4.out
          have hS4 := hS
          clear g0 g1 f0 f1
          gi_wp2
          refine wpIn_region_heldR (fun v => v.cell? ⟨w.heap.size + 1 + 1, 0, none⟩ = some (.slice (some ⟨w.heap.size + 1, 0, none⟩) P.size P.size) ∧ v.cell? ⟨BK, 0, none⟩ = some (.int .u8 (CP : Int)) ∧ v.cell? ⟨BK, 1, none⟩ = some (.int .u8 (CQ : Int)) ∧ Hid (Tab v)) 15 hmx (by kernel_rfl) rfl (by rintro ⟨_, _, h⟩; exact h) hS (fun hS => ?_)
          refine tkH (i := 0) (d := 38) (v := ?_) rfl rfl (by kernel_rfl) (by kernel_rfl) (by kernel_rfl) (fun _ _ _ h => h) (Or.inl ⟨by rfl, by intro wq hSq; obtain ⟨s0, s1, s2, s3⟩ := hSq; go_simp; try with_reducible rfl⟩) hS ?_
          simp only [List.setIfInBounds_toArray, List.set_cons_zero, List.set_cons_succ]
          refine tkH (i := 1) (d := 39) (v := ?_) rfl rfl (by kernel_rfl) (by kernel_rfl) (by kernel_rfl) (fun _ _ _ h => h) (Or.inl ⟨by rfl, by intro wq hSq; obtain ⟨s0, s1, s2, s3⟩ := hSq; go_simp; try with_reducible rfl⟩) hS ?_
          simp only [List.setIfInBounds_toArray, List.set_cons_zero, List.set_cons_succ]
          refine tkH (i := 2) (d := 40) (v := ?_) rfl rfl (by kernel_rfl) (by kernel_rfl) (by kernel_rfl) (fun _ _ _ h => h) (Or.inl ⟨by rfl, by intro wq hSq; obtain ⟨s0, s1, s2, s3⟩ := hSq; go_simp; try with_reducible rfl⟩) hS ?_
          simp only [List.setIfInBounds_toArray, List.set_cons_zero, List.set_cons_succ]
          refine tkH (i := 3) (d := 41) (v := ?_) rfl rfl (by kernel_rfl) (by kernel_rfl) (by kernel_rfl) (fun _ _ _ h => h) (Or.inl ⟨by rfl, by intro wq hSq; obtain ⟨s0, s1, s2, s3⟩ := hSq; go_simp; try with_reducible rfl⟩) hS ?_
          simp only [List.setIfInBounds_toArray, List.set_cons_zero, List.set_cons_succ]
          refine tkH (i := 5) (d := 43) (v := ?_) rfl rfl (by kernel_rfl) (by kernel_rfl) (by kernel_rfl) (fun _ _ _ h => h) (Or.inl ⟨by rfl, by intro wq hSq; obtain ⟨s0, s1, s2, s3⟩ := hSq; go_simp; try with_reducible rfl⟩) hS ?_
          simp only [List.setIfInBounds_toArray, List.set_cons_zero, List.set_cons_succ]
          refine tkH (i := 6) (d := 44) (v := ?_) rfl rfl (by kernel_rfl) (by kernel_rfl) (by kernel_rfl) (fun _ _ _ h => h) (Or.inl ⟨by rfl, by intro wq hSq; obtain ⟨s0, s1, s2, s3⟩ := hSq; go_simp; try with_reducible rfl⟩) hS ?_
          simp only [List.setIfInBounds_toArray, List.set_cons_zero, List.set_cons_succ]
          refine tkH (i := 7) (d := 45) (v := ?_) rfl rfl (by kernel_rfl) (by kernel_rfl) (by kernel_rfl) (fun _ _ _ h => h) (Or.inl ⟨by rfl, by intro wq hSq; obtain ⟨s0, s1, s2, s3⟩ := hSq; go_simp; try with_reducible rfl⟩) hS ?_
          simp only [List.setIfInBounds_toArray, List.set_cons_zero, List.set_cons_succ]
          refine tkH (i := 8) (d := 46) (v := ?_) rfl rfl (by kernel_rfl) (by kernel_rfl) (by kernel_rfl) (fun _ _ _ h => h) (Or.inl ⟨by rfl, by intro wq hSq; obtain ⟨s0, s1, s2, s3⟩ := hSq; go_simp; try with_reducible rfl⟩) hS ?_
          simp only [List.setIfInBounds_toArray, List.set_cons_zero, List.set_cons_succ]
          refine tkH (i := 9) (d := 47) (v := ?_) rfl rfl (by kernel_rfl) (by kernel_rfl) (by kernel_rfl) (fun _ _ _ h => h) (Or.inl ⟨by rfl, by intro wq hSq; obtain ⟨s0, s1, s2, s3⟩ := hSq; go_simp; try with_reducible rfl⟩) hS ?_
          simp only [List.setIfInBounds_toArray, List.set_cons_zero, List.set_cons_succ]
          refine wpAnyH_ready (rs := [4, 10]) (by kernel_rfl) (by simp) (AllReadyH.cons rfl (fun K hK => ?_) (AllReadyH.cons rfl (fun K hK => ?_) AllReadyH.nil))
          · go_simp
            refine hK.out _ _ hS (fun hS => ?_)
            clear hK K
            refine wpAnyH_ready (rs := [10]) (by kernel_rfl) (by simp) (AllReadyH.cons rfl (fun K hK => ?_) AllReadyH.nil)
            go_simp
            refine (fieldMul_any CQ BT _ hcCQ hbl hS.2.2.2.out).mono ?_
            rintro e w3 ⟨rfl, rfl⟩
            refine hK.out _ _ hS (fun hS => ?_)
            clear hK K
            refine tkH (i := 11) (d := 49) (v := ?_) rfl rfl (by kernel_rfl) (by kernel_rfl) (by kernel_rfl) (fun _ _ _ h => h) (Or.inl ⟨by rfl, by intro wq hSq; obtain ⟨s0, s1, s2, s3⟩ := hSq; go_simp; try with_reducible rfl⟩) hS ?_
            simp only [List.setIfInBounds_toArray, List.set_cons_zero, List.set_cons_succ]
            refine tkH (i := 12) (d := 50) (v := ?_) rfl rfl (by kernel_rfl) (by kernel_rfl) (by kernel_rfl) (fun _ _ _ h => h) (Or.inl ⟨by rfl, by intro wq hSq; obtain ⟨s0, s1, s2, s3⟩ := hSq; go_simp; try with_reducible rfl⟩) hS ?_
            simp only [List.setIfInBounds_toArray, List.set_cons_zero, List.set_cons_succ]
            refine tkH (i := 13) (d := 51) (v := ?_) rfl rfl (by kernel_rfl) (by kernel_rfl) (by kernel_rfl) (fun _ _ _ h => h) (Or.inl ⟨by rfl, by intro wq hSq; obtain ⟨s0, s1, s2, s3⟩ := hSq; go_simp; try with_reducible rfl⟩) hS ?_
            simp only [List.setIfInBounds_toArray, List.set_cons_zero, List.set_cons_succ]
            refine wpAnyH_ready (rs := [14]) (by kernel_rfl) (by simp) (AllReadyH.cons rfl (fun K hK => ?_) AllReadyH.nil)
            go_simp
            refine hK.out _ _ ⟨cell_out ((out_setCell w4 (w.heap.size + 1) (k * 2 + 1) _).trans (Out.drew _ _ _)) hS4.1 (by omega), cell_out ((out_setCell w4 (w.heap.size + 1) (k * 2 + 1) _).trans (Out.drew _ _ _)) hS4.2.1 (by omega), cell_out ((out_setCell w4 (w.heap.size + 1) (k * 2 + 1) _).trans (Out.drew _ _ _)) hS4.2.2.1 (by omega), (Tab.set hS4.2.2.2.out (by omega) _ _).drew⟩ (fun hS => ?_)
            clear hK K
            refine wpAnyH_done (by kernel_rfl) ?_ _
            gi_wp2
            go_roundw
            case rel =>
              refine ⟨k + 1, _, by omega, by go_num, block_set (w := w4) HR4.out, by simpa using hcs', ?_, ((o4.trans (out_setCell _ _ _ _)).trans (Out.drew _ _ _))⟩
              have hq := prs_step hst' hcs' hlt
              rw [HE1.out, HE2.out] at hq
              exact hq
            case measure => simp [intOf]; omega
          · go_simp
            refine (fieldMul_any CQ BT _ hcCQ hbl hS.2.2.2.out).mono ?_
            rintro e w3 ⟨rfl, rfl⟩
            refine hK.out _ _ hS (fun hS => ?_)
            clear hK K
            refine wpAnyH_ready (rs := [4]) (by kernel_rfl) (by simp) (AllReadyH.cons rfl (fun K hK => ?_) AllReadyH.nil)
            go_simp
            refine hK.out _ _ hS (fun hS => ?_)
            clear hK K
            refine tkH (i := 11) (d := 49) (v := ?_) rfl rfl (by kernel_rfl) (by kernel_rfl) (by kernel_rfl) (fun _ _ _ h => h) (Or.inl ⟨by rfl, by intro wq hSq; obtain ⟨s0, s1, s2, s3⟩ := hSq; go_simp; try with_reducible rfl⟩) hS ?_
            simp only [List.setIfInBounds_toArray, List.set_cons_zero, List.set_cons_succ]
            refine tkH (i := 12) (d := 50) (v := ?_) rfl rfl (by kernel_rfl) (by kernel_rfl) (by kernel_rfl) (fun _ _ _ h => h) (Or.inl ⟨by rfl, by intro wq hSq; obtain ⟨s0, s1, s2, s3⟩ := hSq; go_simp; try with_reducible rfl⟩) hS ?_
            simp only [List.setIfInBounds_toArray, List.set_cons_zero, List.set_cons_succ]
            refine tkH (i := 13) (d := 51) (v := ?_) rfl rfl (by kernel_rfl) (by kernel_rfl) (by kernel_rfl) (fun _ _ _ h => h) (Or.inl ⟨by rfl, by intro wq hSq; obtain ⟨s0, s1, s2, s3⟩ := hSq; go_simp; try with_reducible rfl⟩) hS ?_
            simp only [List.setIfInBounds_toArray, List.set_cons_zero, List.set_cons_succ]
            refine wpAnyH_ready (rs := [14]) (by kernel_rfl) (by simp) (AllReadyH.cons rfl (fun K hK => ?_) AllReadyH.nil)
            go_simp
            refine hK.out _ _ ⟨cell_out ((out_setCell w4 (w.heap.size + 1) (k * 2 + 1) _).trans (Out.drew _ _ _)) hS4.1 (by omega), cell_out ((out_setCell w4 (w.heap.size + 1) (k * 2 + 1) _).trans (Out.drew _ _ _)) hS4.2.1 (by omega), cell_out ((out_setCell w4 (w.heap.size + 1) (k * 2 + 1) _).trans (Out.drew _ _ _)) hS4.2.2.1 (by omega), (Tab.set hS4.2.2.2.out (by omega) _ _).drew⟩ (fun hS => ?_)
            clear hK K
            refine wpAnyH_done (by kernel_rfl) ?_ _
            gi_wp2
            go_roundw
            case rel =>
              refine ⟨k + 1, _, by omega, by go_num, block_set (w := w4) HR4.out, by simpa using hcs', ?_, ((o4.trans (out_setCell _ _ _ _)).trans (Out.drew _ _ _))⟩
              have hq := prs_step hst' hcs' hlt
              rw [HE1.out, HE2.out] at hq
              exact hq
            case measure => simp [intOf]; omega
      · obtain rfl : k = P.size := by omega
        have hlt' : ¬ (P.size : Int) < (P.size : Int) := by omega
        have oW : Out (w.heap.size + 1) (w.heap.size + 2) W wr := (Out.of_below b2).trans ho
        have HR' : Hid _ := hR'
        clear hR'
        gi_wp2
        refine ⟨keeps_of_out oW HR.out, kq_of_out oW (by omega), ?_, Kq.trans HK.out (kq_of_out oW hge), by have := oW.size; omega, c', HR'.out, hcs', prs_congr hst' (fun j hj => mx2_all hj) (fun j hj => mx2_all hj)⟩
        exact B2.trans ((ho.below (by have := b2.size; omega)).mono (by omega))
  case done =>
    rintro Df ys W hDf hys ⟨hB, hK, hge, c, hR, hcs, hst⟩ hKd
    have y3 : W.cell? ⟨w.heap.size + 1 + 1, 0, none⟩ = some (.slice (some ⟨w.heap.size + 1, 0, none⟩) P.size P.size) := (hK.cell (by omega) (by omega)).trans c20
    have HR : Hid _ := hR
    clear hR
    gi_wp2
    refine ⟨by simp, .inl ⟨_, _, rfl, run_takeDeferred hKd, ?_⟩⟩
    have bp : Below w.heap.size W (W.putObj Df (.deferred none)) := belowK_b (w := w) (Nat.le_refl _) W Df _ _ (by omega) hKd rfl rfl
    refine ⟨_, results_tmp rfl _ _ _, hB.trans bp, some ⟨w.heap.size + 1, 0, none⟩, P.size, rfl, .inr ⟨w.heap.size + 1, c, by omega, ?_, rfl, ?_, ?_⟩⟩
    · have := bp.size; omega
    · rw [(grownBy_putObj' W Df (.deferred none)).block _ (by omega) (fun e => by cases e; omega)]; exact HR.out
    · subst hys
      exact prs_congr hst (fun k _ => acp_all n D P Q k) (fun k _ => acq_all n D P Q k)
  case stop =>
    rintro Df c pre W _ _ h _
    exact h.elim
end Go.Proofs.YtgipopkjjhehlaaDoor
