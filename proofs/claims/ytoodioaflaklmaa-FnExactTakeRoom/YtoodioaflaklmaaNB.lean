/- Room that is picked and taken: the model. -/
import Derived.Test.YtoodioaflaklmaaNA
import Derived.Test.YtoodioaflaklmaaY2
import Derived.Deep.DeepCutAuto
namespace Go.Proofs.Ytoodioaflaklmaa
open Go.ChangeShapes Go.WideShapes Go.ChangeAt Go.RowKit
set_option linter.unusedVariables false
open Room
attribute [local go_sem] Oper.semAt_some
theorem first_in {x : Ex} : ∀ {l : List Ex}, Lies l x → ∃ k, k < l.length ∧ wiP x (gx l k) = true ∧ ∀ j, j < k → wiP x (gx l j) = false
  | [], h => by obtain ⟨o, ho, _⟩ := h; simp at ho
  | y :: l, h => by
    cases hy : wiP x y with
    | true => exact ⟨0, by simp, hy, fun j hj => by omega⟩
    | false =>
      obtain ⟨o, ho, h1, h2⟩ := h
      rcases List.mem_cons.1 ho with rfl | ho
      · exact absurd (show wiP x o = true by simp [wiP, h1, h2]) (by rw [hy]; simp)
      · obtain ⟨k, hk, hp, hj⟩ := first_in (l := l) ⟨o, ho, h1, h2⟩
        refine ⟨k + 1, by simpa using hk, hp, fun j hj' => ?_⟩
        cases j with
        | zero => exact hy
        | succ j => exact hj j (by omega)
theorem within_k (a : Option Addr) (cap : Nat) (l : List Ex) (x : Ex) (k : Nat) (w : World) (hn : l.length ≤ 1048576) (hx : -9223372036854775808 ≤ fin x ∧ fin x ≤ 9223372036854775807) (ho : ∀ i, i < l.length → -9223372036854775808 ≤ fin (gx l i) ∧ fin (gx l i) ≤ 9223372036854775807) (hk : k < l.length) (hp : wiP x (gx l k) = true) (hj : ∀ j, j < k → wiP x (gx l j) = false) (ha : Exs w a l) :
    Calls Try.prog 46 #[.slice a l.length cap, xv x] w fun e w' => e = .returned (.int .i64 (k : Int)) ∧ Below w.heap.size w w' := by
  refine (l5Within_any a cap l x w hn hx ho ha).mono ?_
  rintro e w' ⟨b, kk, rfl, hW⟩
  rcases hW with ⟨i, hi, rfl, h1, h2⟩ | ⟨rfl, h1⟩
  · have : i = k := by
      rcases Nat.lt_trichotomy i k with q | q | q
      · rw [hj i q] at h1; cases h1
      · exact q
      · rw [h2 k q] at hp; cases hp
    subst this
    exact ⟨rfl, b⟩
  · rw [h1 k hk] at hp; cases hp
set_option maxHeartbeats 4000000 in
set_option maxRecDepth 20000 in
theorem specRoomT_any (b : Int) (a : Option Addr) (ca : Nat) (a' : Option Addr) (ca' : Nat) (l s : List Ex) (long how near : Int) (w : World) (hb0 : -9223372036854775808 ≤ b) (hb1 : b ≤ 9223372036854775807) (hn : l.length ≤ 1048576) (hn' : s.length ≤ 1048576) (hca : l.length ≤ ca) (ha : Exs w a l) (ha' : Exs w a' s) :
    Calls Try.prog 15 #[fv b a l.length ca a' s.length ca', .int .i64 long, .int .i64 how, .int .i64 near] w fun e w' => Below w.heap.size w w' ∧ AnsR w.heap.size w' b (pkI l s long how near) (roomR b l s long how near) e := by
  obtain ⟨D, hD⟩ : ∃ D, w.heap.size = D := ⟨_, rfl⟩
  obtain ⟨W0, hW0⟩ : ∃ W0, (w.alloc (.cells #[.int .i64 b, .slice a l.length ca, .slice a' s.length ca'] 29)).alloc (.cells #[.int .i64 0, .slice none 0 0, .slice none 0 0] 29) = W0 := ⟨_, rfl⟩
  have g0 : Below w.heap.size w W0 := by subst hW0; exact ba2 _ _ _
  obtain ⟨B1, B3⟩ : W0.heap[D]? = some (.cells #[.int .i64 b, .slice a l.length ca, .slice a' s.length ca'] 29 (0, 0)) ∧ W0.heap[D + 1]? = some (.cells #[.int .i64 0, .slice none 0 0, .slice none 0 0] 29 (0, 0)) := by subst hW0 hD; exact al2 _ _ _
  have H1 : Hid (W0.heap[D]? = some (.cells #[.int .i64 b, .slice a l.length ca, .slice a' s.length ca'] 29 (0, 0))) := B1
  have H3 : Hid (W0.heap[D + 1]? = some (.cells #[.int .i64 0, .slice none 0 0, .slice none 0 0] 29 (0, 0))) := B3
  have z0 := box_lt B3
  obtain ⟨i0, i1, i2, -, -, -⟩ := box3_cells B1
  clear B1 B3
  have cg := specGood_any b a ca a' ca' l s W0 hb0 hb1 hn hn' (ha.below g0) (ha'.below g0)
  obtain ⟨rg, hrg⟩ : ∃ r, good b l s = r := ⟨_, rfl⟩
  rw [hrg] at cg
  obtain ⟨R, hR⟩ : ∃ R, roomR b l s long how near = R := ⟨_, rfl⟩
  rw [hR]
  obtain ⟨P, hP⟩ : ∃ P, pkI l s long how near = P := ⟨_, rfl⟩
  rw [hP]
  unfold roomR at hR
  rw [hP] at hR
  have HR : Hid ((if good b l s = true ∧ 1 ≤ long ∧ 0 ≤ near ∧ near < b ∧ 0 ≤ P then takeR b l s (P, long) else none) = R) := hR
  have HG : Hid (good b l s = rg) := hrg
  have HP : Hid (pkI l s long how near = P) := hP
  have NO : Hid (¬ (good b l s = true ∧ 1 ≤ long ∧ 0 ≤ near ∧ near < b ∧ 0 ≤ P) → R = none) := fun h => by rw [← HR.out, if_neg h]
  have Ha : Hid (Exs w a l) := ha
  have Ha' : Hid (Exs w a' s) := ha'
  clear hR hrg hP ha ha'
  go_enter Try.func15, Try.ntmps15
  go_wp2_with fail
  refine cg.mono ?_
  rintro e w1 ⟨rfl, b1⟩
  clear cg hW0 i0 i1 i2
  have g1 := Below.comp g0 b1
  cases rg with
  | false =>
    have hNo := NO.out (fun h => by have := h.1; rw [HG.out] at this; cases this)
    obtain ⟨r0, r1, r2, q0, q1, q2⟩ := box3_cells (box_on H3.out b1)
    go_wp2
    obtain ⟨W9, hW9⟩ : ∃ W9, ((w1.setCell ⟨D + 1, 0, none⟩ (.int .i64 0)).setCell ⟨D + 1, 1, none⟩ (.slice none 0 0)).setCell ⟨D + 1, 2, none⟩ (.slice none 0 0) = W9 := ⟨_, rfl⟩
    have o9 : Out (D + 1) (D + 1 + 1) w1 W9 := by subst hW9; exact box3_out _ _ _ _ _
    have R9 : W9.heap[D + 1]? = some (.cells #[.int .i64 0, .slice none 0 0, .slice none 0 0] 29 (0, 0)) := by subst hW9; exact box3_set (box_on H3.out b1)
    rw [hW9]
    clear hW9 r0 r1 r2 q0 q1 q2
    obtain ⟨t0, t1, t2, -, -, -⟩ := box3_cells R9
    have z9 := (b1).size
    have z9' := o9.size
    refine bodyPost_ret (v := .tuple #[fv 0 none 0 0 none 0 0, .int .i64 0, .bool false]) (by simp [results, Try.results15, go_sem, t0, t1, t2]) rfl ?_
    have gW : Below w.heap.size w W9 := (Below.comp g0 (b1)).trans ((o9.below (by omega)).mono (by omega))
    refine ⟨by first | exact gW | exact (hD ▸ gW), ?_⟩
    rw [hNo]
    exact ansR_none rfl (by first | exact gW.size | exact (hD ▸ gW.size))
  | true =>
    obtain ⟨hml, hin, hs60, hl60, hbb⟩ := good_mem HG.out
    obtain ⟨i0, i1, i2, -, -, -⟩ := box3_cells (box_on H1.out b1)
    have cL := fun W => l1In_any long 1 b W
    have cH := fun W => l1In_any how 1 4 W
    have cN := fun W => l1In_any near 0 (b - 1) W
    have hwb : IntKind.i64.wrap (b - 1) = b - 1 := wrapI (by omega) (by omega)
    by_cases h1 : 1 ≤ long ∧ long ≤ b
    case neg =>
      have hNo := NO.out (fun h => by
        have := pk_far HG.out h.2.1 (by rw [HP.out]; exact h.2.2.2.2)
        omega)
      rw [show (decide (1 ≤ long) && decide (long ≤ b)) = false by simp; omega] at cL
      go_wp2_with fail
      refine (cL _).mono ?_
      rintro e w2 ⟨rfl, hw2⟩
      rw [hw2]
      clear hw2
      obtain ⟨r0, r1, r2, q0, q1, q2⟩ := box3_cells (box_on H3.out b1)
      go_wp2
      obtain ⟨W9, hW9⟩ : ∃ W9, ((w1.setCell ⟨D + 1, 0, none⟩ (.int .i64 0)).setCell ⟨D + 1, 1, none⟩ (.slice none 0 0)).setCell ⟨D + 1, 2, none⟩ (.slice none 0 0) = W9 := ⟨_, rfl⟩
      have o9 : Out (D + 1) (D + 1 + 1) w1 W9 := by subst hW9; exact box3_out _ _ _ _ _
      have R9 : W9.heap[D + 1]? = some (.cells #[.int .i64 0, .slice none 0 0, .slice none 0 0] 29 (0, 0)) := by subst hW9; exact box3_set (box_on H3.out b1)
      rw [hW9]
      clear hW9 r0 r1 r2 q0 q1 q2
      obtain ⟨t0, t1, t2, -, -, -⟩ := box3_cells R9
      have z9 := (b1).size
      have z9' := o9.size
      refine bodyPost_ret (v := .tuple #[fv 0 none 0 0 none 0 0, .int .i64 0, .bool false]) (by simp [results, Try.results15, go_sem, t0, t1, t2]) rfl ?_
      have gW : Below w.heap.size w W9 := (Below.comp g0 (b1)).trans ((o9.below (by omega)).mono (by omega))
      refine ⟨by first | exact gW | exact (hD ▸ gW), ?_⟩
      rw [hNo]
      exact ansR_none rfl (by first | exact gW.size | exact (hD ▸ gW.size))
    rw [show (decide (1 ≤ long) && decide (long ≤ b)) = true by simp; omega] at cL
    by_cases h2 : 1 ≤ how ∧ how ≤ 4
    case neg =>
      have hNo := NO.out (fun h => by
        have := pk_far HG.out h.2.1 (by rw [HP.out]; exact h.2.2.2.2)
        omega)
      rw [show (decide (1 ≤ how) && decide (how ≤ 4)) = false by simp; omega] at cH
      go_wp2_with fail
      refine (cL _).mono ?_
      rintro e w2 ⟨rfl, hw2⟩
      rw [hw2]
      clear hw2
      go_wp2_with fail
      refine (cH _).mono ?_
      rintro e w2 ⟨rfl, hw2⟩
      rw [hw2]
      clear hw2
      obtain ⟨r0, r1, r2, q0, q1, q2⟩ := box3_cells (box_on H3.out b1)
      go_wp2
      obtain ⟨W9, hW9⟩ : ∃ W9, ((w1.setCell ⟨D + 1, 0, none⟩ (.int .i64 0)).setCell ⟨D + 1, 1, none⟩ (.slice none 0 0)).setCell ⟨D + 1, 2, none⟩ (.slice none 0 0) = W9 := ⟨_, rfl⟩
      have o9 : Out (D + 1) (D + 1 + 1) w1 W9 := by subst hW9; exact box3_out _ _ _ _ _
      have R9 : W9.heap[D + 1]? = some (.cells #[.int .i64 0, .slice none 0 0, .slice none 0 0] 29 (0, 0)) := by subst hW9; exact box3_set (box_on H3.out b1)
      rw [hW9]
      clear hW9 r0 r1 r2 q0 q1 q2
      obtain ⟨t0, t1, t2, -, -, -⟩ := box3_cells R9
      have z9 := (b1).size
      have z9' := o9.size
      refine bodyPost_ret (v := .tuple #[fv 0 none 0 0 none 0 0, .int .i64 0, .bool false]) (by simp [results, Try.results15, go_sem, t0, t1, t2]) rfl ?_
      have gW : Below w.heap.size w W9 := (Below.comp g0 (b1)).trans ((o9.below (by omega)).mono (by omega))
      refine ⟨by first | exact gW | exact (hD ▸ gW), ?_⟩
      rw [hNo]
      exact ansR_none rfl (by first | exact gW.size | exact (hD ▸ gW.size))
    rw [show (decide (1 ≤ how) && decide (how ≤ 4)) = true by simp; omega] at cH
    have c47 := fun (h : 0 ≤ near ∧ near ≤ b - 1) => l5Pick_any b a ca a' ca' l s long how near w1 hl60 hs60 (by omega) h2 (by omega) hin (Ha.out.below g1) (Ha'.out.below g1)
    rw [HP.out] at c47
    obtain ⟨rn, hrn⟩ : ∃ rn, (decide (0 ≤ near) && decide (near ≤ b - 1)) = rn := ⟨_, rfl⟩
    rw [hrn] at cN
    have HN : Hid ((decide (0 ≤ near) && decide (near ≤ b - 1)) = rn) := hrn
    clear hrn
    go_wp2_with fail
    refine (cL _).mono ?_
    rintro e w2 ⟨rfl, hw2⟩
    rw [hw2]
    clear hw2
    go_wp2_with fail
    refine (cH _).mono ?_
    rintro e w2 ⟨rfl, hw2⟩
    rw [hw2]
    clear hw2
    go_wp2_with fail
    refine (cN _).mono ?_
    rintro e w2 ⟨rfl, hw2⟩
    rw [hw2]
    clear hw2 cL cH cN
    cases rn with
    | false =>
      have hNo := NO.out (fun h => by
        have := HN.out
        rw [decide_eq_true h.2.2.1, decide_eq_true (show near ≤ b - 1 by omega)] at this
        cases this)
      obtain ⟨r0, r1, r2, q0, q1, q2⟩ := box3_cells (box_on H3.out b1)
      go_wp2
      obtain ⟨W9, hW9⟩ : ∃ W9, ((w1.setCell ⟨D + 1, 0, none⟩ (.int .i64 0)).setCell ⟨D + 1, 1, none⟩ (.slice none 0 0)).setCell ⟨D + 1, 2, none⟩ (.slice none 0 0) = W9 := ⟨_, rfl⟩
      have o9 : Out (D + 1) (D + 1 + 1) w1 W9 := by subst hW9; exact box3_out _ _ _ _ _
      have R9 : W9.heap[D + 1]? = some (.cells #[.int .i64 0, .slice none 0 0, .slice none 0 0] 29 (0, 0)) := by subst hW9; exact box3_set (box_on H3.out b1)
      rw [hW9]
      clear hW9 r0 r1 r2 q0 q1 q2
      obtain ⟨t0, t1, t2, -, -, -⟩ := box3_cells R9
      have z9 := (b1).size
      have z9' := o9.size
      refine bodyPost_ret (v := .tuple #[fv 0 none 0 0 none 0 0, .int .i64 0, .bool false]) (by simp [results, Try.results15, go_sem, t0, t1, t2]) rfl ?_
      have gW : Below w.heap.size w W9 := (Below.comp g0 (b1)).trans ((o9.below (by omega)).mono (by omega))
      refine ⟨by first | exact gW | exact (hD ▸ gW), ?_⟩
      rw [hNo]
      exact ansR_none rfl (by first | exact gW.size | exact (hD ▸ gW.size))
    | true =>
      have hne : 0 ≤ near ∧ near ≤ b - 1 := by have := HN.out; simpa using this
      have c47 := c47 hne
      by_cases h0 : 0 ≤ P
      case neg =>
        have hNo := NO.out (fun h => h0 h.2.2.2.2)
        have h0' : P < 0 := by omega
        go_wp2_with fail
        refine c47.mono ?_
        rintro e w2 ⟨rfl, b2⟩
        clear c47 i0 i1 i2
        have b12 := Below.comp b1 b2
        obtain ⟨r0, r1, r2, q0, q1, q2⟩ := box3_cells (box_on H3.out b12)
        go_wp2
        obtain ⟨W9, hW9⟩ : ∃ W9, ((w2.setCell ⟨D + 1, 0, none⟩ (.int .i64 0)).setCell ⟨D + 1, 1, none⟩ (.slice none 0 0)).setCell ⟨D + 1, 2, none⟩ (.slice none 0 0) = W9 := ⟨_, rfl⟩
        have o9 : Out (D + 1) (D + 1 + 1) w2 W9 := by subst hW9; exact box3_out _ _ _ _ _
        have R9 : W9.heap[D + 1]? = some (.cells #[.int .i64 0, .slice none 0 0, .slice none 0 0] 29 (0, 0)) := by subst hW9; exact box3_set (box_on H3.out b12)
        rw [hW9]
        clear hW9 r0 r1 r2 q0 q1 q2
        obtain ⟨t0, t1, t2, -, -, -⟩ := box3_cells R9
        have z9 := (b12).size
        have z9' := o9.size
        refine bodyPost_ret (v := .tuple #[fv 0 none 0 0 none 0 0, .int .i64 0, .bool false]) (by simp [results, Try.results15, go_sem, t0, t1, t2]) rfl ?_
        have gW : Below w.heap.size w W9 := (Below.comp g0 (b12)).trans ((o9.below (by omega)).mono (by omega))
        refine ⟨by first | exact gW | exact (hD ▸ gW), ?_⟩
        rw [hNo]
        exact ansR_none rfl (by first | exact gW.size | exact (hD ▸ gW.size))
      have hfar := pk_far HG.out h1.1 (by rw [HP.out]; exact h0)
      rw [HP.out] at hfar
      have hlies := pk_lies hml (by rw [HP.out]; exact h0)
      rw [HP.out] at hlies
      have hRR := HR.out
      rw [if_pos ⟨HG.out, h1.1, hne.1, by omega, h0⟩] at hRR
      obtain ⟨-, -, hPl, -⟩ := good_iff.1 HG.out
      have hinB : inB b (P, long) = true := by
        obtain ⟨o, ho, q1, q2⟩ := hlies
        have := hPl.ins o ho
        unfold fin at *
        exact inB_iff.2 ⟨h0, h1.1, by simp only at *; omega⟩
      have hRR : few (cutL (P, long) l) = R := by rw [← hRR]; simp [takeR, HG.out, hinB]
      have HRR : Hid (few (cutL (P, long) l) = R) := hRR
      have HPl : Hid (Pl b l) := hPl
      have hfl : Hid (∀ i, i < l.length → -9223372036854775808 ≤ fin (gx l i) ∧ fin (gx l i) ≤ 9223372036854775807) := fun i hi => by
        have := hPl.ins (gx l i) (by rw [gx_eq hi]; exact List.getElem_mem hi)
        unfold fin at *
        omega
      obtain ⟨k, hk, hp, hj⟩ := first_in hlies
      have hin' := inB_iff.1 hinB
      simp only at hin'
      have hxb : -9223372036854775808 ≤ fin (P, long) ∧ fin (P, long) ≤ 9223372036854775807 := by unfold fin; simp only; omega
      have cw := fun W h => within_k a ca l (P, long) k W hn hxb hfl.out hk hp hj h
      clear hlies hinB hPl hRR HR NO HP hin hml hfar HN
      have hP0 : ¬ P < 0 := by omega
      go_wp2_with fail
      refine c47.mono ?_
      rintro e w2 ⟨rfl, b2⟩
      clear c47 i0 i1 i2
      obtain ⟨E, hE⟩ : ∃ E, w2.heap.size = E := ⟨_, rfl⟩
      obtain ⟨w3, hW3⟩ : ∃ w3, w2.alloc (.cells #[.int .i64 P, .int .i64 long] 41) = w3 := ⟨_, rfl⟩
      have b3 : Below w2.heap.size w2 w3 := by subst hW3; exact below_alloc _ _
      have HE : Hid (w3.heap[E]? = some (.cells #[.int .i64 P, .int .i64 long] 41 (0, 0))) := by subst hW3 hE; exact al1 _ _
      have b13 := Below.comp b1 (Below.comp b2 b3)
      have hcs := cut_some hk hp hj
      rw [wiP_hold, hold_iff] at hp
      have hyi := HPl.out.ins (gx l k) (by rw [gx_eq hk]; exact List.getElem_mem hk)
      obtain ⟨hX1, hX2, hX3, hX4, hX5⟩ := cut_side (x := (P, long)) HPl.out hk (by simp only; omega) hp
      have hmPl := by
        have h := cut_pl (b := b) (A := l.take k) (B := l.drop (k + 1)) (o := gx l k) (x := (P, long)) (by rw [← split_at hk]; exact HPl.out) (by simp only; omega) hp
        exact h
      have c49 := fun W h => l5Cut_any a ca l k (P, long) W (by omega) hca hk (by unfold fin at *; omega) (by simp only; omega) hp h
      generalize l.take k ++ (pcs (gx l k) (P, long) ++ l.drop (k + 1)) = m at *
      have hm61 : m.length ≤ 62 := by have := len_pcs (gx l k) (P, long); omega
      have hR' : few (some m) = R := by rw [← hcs]; exact HRR.out
      have hgm : good b m (srt m) = decide (m.length ≤ 60) := by
        by_cases h : m.length ≤ 60
        · rw [decide_eq_true h]; exact good_iff.2 ⟨⟨by omega, by omega⟩, h, hmPl, rfl⟩
        · rw [decide_eq_false h]
          cases hg : good b m (srt m) with
          | false => rfl
          | true => exact absurd (good_iff.1 hg).2.1 h
      clear hcs hj HRR hX1 hX2 hX3 hX4 hX5 hp hyi hmPl
      have hk0 : ¬ (k : Int) < 0 := by omega
      have c48 := fun x c W h => l5Of_any b x c m W (by omega) h
      have g3 := Below.comp g0 b13
      have K1 : Hid (w3.heap[D]? = _) := box_on H1.out b13
      have K2 : Hid (w3.heap[E]? = some (.cells #[.int .i64 P, .int .i64 long] 41 (0, 0))) := HE
      have zD := box_lt (box_on H3.out b13)
      have SB6 : Hid (∀ W, Below w3.heap.size w3 W → W.cell? ⟨D, 0, none⟩ = some (.int .i64 b) ∧ W.cell? ⟨D, 1, none⟩ = some (.slice a l.length ca) ∧ W.cell? ⟨D, 2, none⟩ = some (.slice a' s.length ca') ∧ W.cell? ⟨E, 0, none⟩ = some (.int .i64 P) ∧ W.cell? ⟨E, 1, none⟩ = some (.int .i64 long) ∧ Below w3.heap.size w3 W) := fun W z => by
        obtain ⟨h0, h1, h2, -⟩ := box3_cells (box_on K1.out z)
        obtain ⟨h3, h4, -, -⟩ := box2_cells (box_on K2.out z)
        exact ⟨h0, h1, h2, h3, h4, z⟩
      go_upto_region 7 with fail
      go_cut [13] (fun sx wx => ∃ F u cu u' cu', sx = .pointer (some ⟨F, 0, none⟩) ∧ wx.heap[F]? = some (.cells #[.int .i64 b, .slice u m.length cu, .slice u' (srt m).length cu'] 29 (0, 0)) ∧ FreeAt w3.heap.size wx (fv b u m.length cu u' (srt m).length cu') b m (srt m) ∧ Below w3.heap.size w3 wx)
      case first =>
        go_region_held3 (fun W => W.cell? ⟨D, 0, none⟩ = some (.int .i64 b) ∧ W.cell? ⟨D, 1, none⟩ = some (.slice a l.length ca) ∧ W.cell? ⟨D, 2, none⟩ = some (.slice a' s.length ca') ∧ W.cell? ⟨E, 0, none⟩ = some (.int .i64 P) ∧ W.cell? ⟨E, 1, none⟩ = some (.int .i64 long) ∧ Below w3.heap.size w3 W)
          ((refine SB6.out _ ?_; first | assumption | exact Below.drew (Below.refl _ _) | exact Below.comp (by assumption) (below_alloc _ _) | exact Below.comp (Below.drew (Below.refl _ _)) (below_alloc _ _) | exact b35.trans (((box3_out _ _ _ _ _).below (by have h0 := bA.size; have h1 := b34.size; have h2 := b45.size; first | omega | (simp at *; omega))).mono (by have h0 := bA.size; have h1 := b34.size; have h2 := b45.size; first | omega | (simp at *; omega)))))
          (first
          | (go_at_call 46; obtain ⟨-, -, -, -, -, hw0⟩ := ‹_ ∧ _ ∧ _ ∧ _ ∧ _ ∧ Below w3.heap.size w3 _›; refine (cw _ (Ha.out.below (Below.comp g3 hw0))).mono ?_; rintro e wk ⟨rfl, bk'⟩; (first | (have hF3 := box_on (w := (w3.alloc (.cells #[.int .i64 0, .slice none 0 0, .slice none 0 0] 29)).drew) (al1 w3 (.cells #[.int .i64 0, .slice none 0 0, .slice none 0 0] 29)) bk') | (have hF3 := box_on (al1 w3.drew (.cells #[.int .i64 0, .slice none 0 0, .slice none 0 0] 29)) bk') | skip); have bA := Below.comp hw0 bk'; clear hw0 bk')
          | (go_at_call 45; refine (c49 _ (by first | exact Ha.out.below (Below.comp g3 bA) | exact Ha.out.below (Below.comp g3 (Below.comp bA (below_alloc _ _))))).mono ?_; rintro e w4 ⟨b4', vm, rfl, om⟩; obtain ⟨xm, cm, rfl⟩ := owns_form om; have rm : Exs w4 xm m := MineX.row om.own.1; clear om; (first | (have hF4 := box_on hF3 b4') | (have hF4 := box_on (al1 wk (.cells #[.int .i64 0, .slice none 0 0, .slice none 0 0] 29)) b4') | skip); have b34 : Below w3.heap.size w3 w4 := (by first | exact Below.comp bA b4' | exact Below.comp (Below.comp bA (below_alloc _ _)) b4'); clear b4')
          | (go_at_call 44; refine (c48 xm cm _ (by first | exact rm | exact rm.below (below_alloc _ _))).mono ?_; rintro e w5 ⟨b5', v5, rfl, u, cu, u', cu', M5, rfl, hM1, hM2, mu, mu'⟩; (first | (have hF5 := box_on hF4 b5'; have hFl := box_lt hF4; have z5 := b5'.size; obtain ⟨r0, r1, r2, q0, q1, q2⟩ := box3_cells hF5) | (have hF5 := box_on (al1 w4 (.cells #[.int .i64 0, .slice none 0 0, .slice none 0 0] 29)) b5'; have hFl := box_lt (al1 w4 (.cells #[.int .i64 0, .slice none 0 0, .slice none 0 0] 29)); have z5 := b5'.size; obtain ⟨r0, r1, r2, q0, q1, q2⟩ := box3_cells hF5) | skip); have F5 : FreeAt _ w5 (fv b u m.length cu u' (srt m).length cu') b m (srt m) := ⟨u, cu, u', cu', M5, rfl, hM1, hM2, mu, mu'⟩; have b45 : Below w4.heap.size w4 w5 := (by first | exact b5' | exact Below.comp (below_alloc _ _) b5'); have b35 := Below.comp b34 b45; clear hM1 hM2 mu mu'))
        all_goals go_wp2_with fail
        all_goals go_meet
        all_goals first
          | exact ⟨w5.heap.size, u, cu, u', cu', rfl, al1 w5 _, (FreeAt.out (C := 0) (D := 0) F5 (Out.of_below (below_alloc _ _)) (Nat.zero_le _)).mono (by have h0 := bA.size; have h1 := b34.size; have h2 := b45.size; first | omega | (simp at *; omega)), Below.comp b35 (below_alloc _ _)⟩
          | exact ⟨_, u, cu, u', cu', rfl, box3_set hF5, (FreeAt.out F5 (box3_out _ _ _ _ _) (by have h0 := bA.size; have h1 := b34.size; have h2 := b45.size; first | omega | (simp at *; omega))).mono (by have h0 := bA.size; have h1 := b34.size; have h2 := b45.size; first | omega | (simp at *; omega)), b35.trans (((box3_out _ _ _ _ _).below (by have h0 := bA.size; have h1 := b34.size; have h2 := b45.size; first | omega | (simp at *; omega))).mono (by have h0 := bA.size; have h1 := b34.size; have h2 := b45.size; first | omega | (simp at *; omega)))⟩
      case rest =>
        obtain ⟨F, u, cu, u', cu', rfl, hF, F6, b36⟩ := hcut
        generalize wc = w6 at *
        have HF : Hid _ := hF
        have HF6 : Hid _ := F6
        clear hF F6 SB6
        have b16 := Below.comp b13 b36
        obtain ⟨f0, f1, f2, -, -, -⟩ := box3_cells HF.out
        have r6 : Exs w6 u m ∧ Exs w6 u' (srt m) := by
          obtain ⟨x, c, x', c', M, e, -, -, o1, o2⟩ := HF6.out
          simp only [fv, Value.agg.injEq, Array.mk.injEq, List.cons.injEq, Value.slice.injEq, and_true, true_and] at e
          obtain ⟨⟨rfl, rfl⟩, ⟨rfl, rfl⟩⟩ := e
          exact ⟨MineX.row o1, MineX.row o2⟩
        have c28 := specGood_any b u cu u' cu' m (srt m) w6 hb0 hb1 (by omega) (by rw [len_srt]; omega) r6.1 r6.2
        rw [hgm] at c28
        go_wp2_with fail
        refine c28.mono ?_
        rintro e w7 ⟨rfl, b7⟩
        clear c28 f0 f1 f2 r6
        have b17 := Below.comp b16 b7
        by_cases hm : m.length ≤ 60
        · have hRs : R = some m := by rw [← hR']; exact if_pos hm
          subst hRs
          rw [decide_eq_true hm]
          obtain ⟨f0, f1, f2, -, -, -⟩ := box3_cells (box_on HF.out b7)
          obtain ⟨r0, r1, r2, q0, q1, q2⟩ := box3_cells (box_on H3.out b17)
          go_wp2
          obtain ⟨W9, hW9⟩ : ∃ W9, ((w7.setCell ⟨D + 1, 0, none⟩ (.int .i64 b)).setCell ⟨D + 1, 1, none⟩ (.slice u m.length cu)).setCell ⟨D + 1, 2, none⟩ (.slice u' (srt m).length cu') = W9 := ⟨_, rfl⟩
          have o9 : Out (D + 1) (D + 1 + 1) w7 W9 := by subst hW9; exact box3_out _ _ _ _ _
          have R9 : W9.heap[D + 1]? = some (.cells #[.int .i64 b, .slice u m.length cu, .slice u' (srt m).length cu'] 29 (0, 0)) := by subst hW9; exact box3_set (box_on H3.out b17)
          rw [hW9]
          clear hW9 r0 r1 r2 q0 q1 q2 f0 f1 f2
          obtain ⟨t0, t1, t2, -, -, -⟩ := box3_cells R9
          have z9 := b17.size
          have z9' := o9.size
          refine bodyPost_ret (v := .tuple #[fv b u m.length cu u' (srt m).length cu', .int .i64 P, .bool true]) (by simp [results, Try.results15, go_sem, t0, t1, t2]) rfl ?_
          have gW : Below w.heap.size w W9 := (Below.comp g0 b17).trans ((o9.below (by omega)).mono (by omega))
          have z3 := g3.size
          exact ⟨by first | exact gW | exact (hD ▸ gW), _, rfl, ((FreeAt.out (FreeAt.out (C := 0) (D := 0) HF6.out (Out.of_below b7) (Nat.zero_le _)) o9 (by omega)).mono (by first | omega | (have := hD; omega)))⟩
        · have hRs : R = none := by rw [← hR']; exact if_neg hm
          subst hRs
          rw [decide_eq_false hm]
          obtain ⟨r0, r1, r2, q0, q1, q2⟩ := box3_cells (box_on H3.out b17)
          go_wp2
          obtain ⟨W9, hW9⟩ : ∃ W9, ((w7.setCell ⟨D + 1, 0, none⟩ (.int .i64 0)).setCell ⟨D + 1, 1, none⟩ (.slice none 0 0)).setCell ⟨D + 1, 2, none⟩ (.slice none 0 0) = W9 := ⟨_, rfl⟩
          have o9 : Out (D + 1) (D + 1 + 1) w7 W9 := by subst hW9; exact box3_out _ _ _ _ _
          have R9 : W9.heap[D + 1]? = some (.cells #[.int .i64 0, .slice none 0 0, .slice none 0 0] 29 (0, 0)) := by subst hW9; exact box3_set (box_on H3.out b17)
          rw [hW9]
          clear hW9 r0 r1 r2 q0 q1 q2
          obtain ⟨t0, t1, t2, -, -, -⟩ := box3_cells R9
          have z9 := (b17).size
          have z9' := o9.size
          refine bodyPost_ret (v := .tuple #[fv 0 none 0 0 none 0 0, .int .i64 0, .bool false]) (by simp [results, Try.results15, go_sem, t0, t1, t2]) rfl ?_
          have gW : Below w.heap.size w W9 := (Below.comp g0 (b17)).trans ((o9.below (by omega)).mono (by omega))
          exact ⟨by first | exact gW | exact (hD ▸ gW), ansR_none rfl (by first | exact gW.size | exact (hD ▸ gW.size))⟩
end Go.Proofs.Ytoodioaflaklmaa
