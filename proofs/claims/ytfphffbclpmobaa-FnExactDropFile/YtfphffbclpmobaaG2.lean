import Derived.Test.YtfphffbclpmobaaG1
import Derived.Test.YtfphffbclpmobaaB2
/- The specification: good vaults. -/
namespace Go.Proofs.Ytfphffbclpmobaa
open Go.ChangeShapes Go.WideShapes Go.ChangeAt Go.RowKit
set_option linter.unusedVariables false
open Hd

attribute [local go_sem] Oper.semAt_some

theorem same_regrown {P : Program} {f : Nat} {args : Array Value} {W : World} {v : Value} (h : ∀ u, Calls P f args u fun e w' => e = .returned v ∧ w' = u) (d : _) (os : _) :
    Calls P f args (Go.Sort.grow (redrawn W d) os) fun e w'' => e = .returned v ∧ ∃ p : Regrown, w'' = Go.Sort.grow (redrawn W p.d) p.os :=
  Calls.regrown_of ((h _).mono fun e w' q => ⟨q.1, by rw [q.2]; exact Below.refl _ _⟩)
theorem AtR.uniq {l : List Nm} {k : Nat} {s : ByteArray} {r r' : Int} (h : AtR l k s r) (h' : AtR l k s r') : r = r' := by
  rcases h with ⟨e, h1⟩ | ⟨j, e, h1, h2, h3⟩
  · rcases h' with ⟨e', -⟩ | ⟨j', -, g1, g2, -⟩
    · rw [e, e']
    · exact absurd g2 (h1 j' g1)
  · rcases h' with ⟨-, g1⟩ | ⟨j', e', g1, g2, g3⟩
    · exact absurd h2 (g1 j h1)
    · have : j = j' := by
        rcases Nat.lt_trichotomy j j' with q | q | q
        · exact absurd h2 (g3 j q)
        · exact q
        · exact absurd g2 (h3 j' q)
      rw [e, e', this]
theorem AtR.ex (l : List Nm) (k : Nat) (s : ByteArray) : ∃ r, AtR l k s r := by
  induction k with
  | zero => exact ⟨-1, .inl ⟨rfl, fun j h => absurd h (by omega)⟩⟩
  | succ k ih =>
    obtain ⟨r, hr⟩ := ih
    rcases hr with ⟨e, h1⟩ | ⟨j, e, h1, h2, h3⟩
    · by_cases h : (gm l k).nm = s
      · exact ⟨k, .inr ⟨k, rfl, by omega, h, h1⟩⟩
      · refine ⟨-1, .inl ⟨rfl, fun j hj => ?_⟩⟩
        by_cases e : j = k
        · subst e; exact h
        · exact h1 j (by omega)
    · exact ⟨j, .inr ⟨j, rfl, by omega, h2, h3⟩⟩
theorem l15At_is (a : Option Addr) (l : List Nm) (n cap : Nat) (s : ByteArray) (r : Int) (w : World) (hn : n ≤ 1048576) (hnl : n ≤ l.length) (hc : Nms w a l) (hr : AtR l n s r) :
    Calls Try.prog 30 #[.slice a n cap, .string s] w fun e w' => e = .returned (.int .i64 r) ∧ Below w.heap.size w w' :=
  (l15At_any a l n cap s w hn hnl hc).mono fun e w' ⟨⟨r', e1, h1⟩, hb⟩ => ⟨by rw [e1, h1.uniq hr], hb⟩
theorem AtR.none {l : List Nm} {k : Nat} {s : ByteArray} {r : Int} (h : AtR l k s r) : r < 0 ↔ ∀ j, j < k → (gm l j).nm ≠ s := by
  rcases h with ⟨e, h1⟩ | ⟨j, e, h1, h2, h3⟩
  · exact ⟨fun _ => h1, fun _ => by omega⟩
  · exact ⟨fun q => by omega, fun q => absurd h2 (q j h1)⟩
/-- A row of numbers as a function tells them. -/
def numsN (n : Nat) (f : Nat → Nat) (c : Array Value) : Prop := ∀ i, i < n → c[i]? = some (.int .i64 (f i : Nat))
theorem made3 {n i : Nat} (h : i < n) : (made (.int .i64 0) n)[i]? = some (.int .i64 0) := by
  have := toList_madeCells_one (.int .i64 0) n
  unfold made
  rw [show (Value.int .i64 0).cells = #[.int .i64 0] from rfl, ← Array.getElem?_toList, this]
  simp [h]
theorem sliceK_to (b off n c k : Nat) (h : k ≤ c) (w : World) : (Instr.slice 27 (.slice (some ⟨b, off, none⟩) n c) none (some (.int .i64 (k : Int))) none).run Try.prog w = .ok (.slice (some ⟨b, off, none⟩) k c) w := by
  rw [run_slice_h w 27 (some ⟨b, off, none⟩) n c (by kernel_rfl) .i64 k (by omega) (by omega), show Try.prog.elem 27 = 46 from by kernel_rfl, Try.sizeOf46]
  simp only [Result.andThen, sliced]
  split
  · simp
  · simp [addN]
set_option maxHeartbeats 4000000 in
theorem specGood_any (v : Value) (u : Va) (B : Bool) (w : World) (hc : VAt w v u) (hf : FewV u) (hs : Sml u) (hB : B = true ↔ GV u) :
    Calls Try.prog 13 #[v] w fun e w' => e = .returned (.bool B) ∧ Below w.heap.size w w' := by
  obtain ⟨a, ca, a', ca', rfl, hca, -, hP, hF⟩ := hc
  obtain ⟨hs1, hs2, hs3⟩ := hs
  obtain ⟨hf1, hf2⟩ := hf
  have HG : Hid (B = true ↔ GV u) := hB
  have HSz : Hid (∀ j k i, j < u.fs.length → k ≤ (gf u.fs j).length → tf u.fs j i + pn (gf u.fs j) k i ≤ 1048576) := fun j k i h1 h2 => Nat.le_trans (tp_le h1 h2 i) hs3
  have HLn : Hid (∀ j, j < u.fs.length → (gf u.fs j).length ≤ 1048576) := fun j h => Nat.le_trans (kk_le h) hs3
  have HK : Hid (∀ i, i < u.pc.length → (gm u.pc i).nm.size ≤ 9223372036854775807) := hf1.2
  clear hB hf1 hf2 hs3
  obtain ⟨W0, hW0⟩ : ∃ W0, w.alloc (.cells #[.slice a u.pc.length ca, .slice a' u.fs.length ca'] 30) = W0 := ⟨_, rfl⟩
  have q0 : Below w.heap.size w W0 := by subst hW0; exact below_alloc _ _
  have H1 : Hid (W0.heap[w.heap.size]? = some (.cells #[.slice a u.pc.length ca, .slice a' u.fs.length ca'] 30 (0, 0))) := by subst hW0; exact al1 _ _
  obtain ⟨i0, i1, -, -⟩ := box2_cells H1.out
  obtain ⟨n, hn⟩ : ∃ n, u.pc.length = n := ⟨_, rfl⟩
  obtain ⟨m, hm⟩ : ∃ m, u.fs.length = m := ⟨_, rfl⟩
  have Hn : Hid (u.pc.length = n) := hn
  have Hm : Hid (u.fs.length = m) := hm
  unfold vv
  have HC : Hid (∀ W, Below w.heap.size w W → Nms W a u.pc) := fun W h => hP.below h
  have HD : Hid (m ≠ 0 → ∃ b off, a' = some ⟨b, off, none⟩ ∧ ∀ i, i < m → FiAt w b (off + i) (gf u.fs i)) := fun hne => by
    obtain ⟨b, off, e, hh⟩ := hF (by omega)
    exact ⟨b, off, e, fun i hi => hh i (by omega)⟩
  clear hP hF
  rw [hm] at HSz HLn hs2
  rw [hn] at HK hs1 hca
  rw [hn, hm] at H1 hW0
  rw [hn] at i0
  rw [hm] at i1
  rw [hn, hm]
  clear hn hm
  have hmk := make_any (P := Try.prog) 42 3 _ 1 8 Try.underlying42 info3 .i64 .i64 n (by omega) (by omega)
  obtain ⟨U, hU⟩ : ∃ U, W0.heap.size = U := ⟨_, rfl⟩
  obtain ⟨W1, hW1⟩ : ∃ W1, W0.alloc (.cells (made (.int .i64 0) (n * 1)) 3) = W1 := ⟨_, rfl⟩
  have q1 : Below W0.heap.size W0 W1 := by subst hW1; exact below_alloc _ _
  have HU : Hid (W1.heap[U]? = some (.cells (made (.int .i64 0) (n * 1)) 3 (0, 0))) := by subst hW1 hU; exact al1 _ _
  have H2 : Hid (W1.heap[w.heap.size]? = some (.cells #[.slice a n ca, .slice a' m ca'] 30 (0, 0))) := box_on H1.out q1
  have hUw : w.heap.size + 1 ≤ U := by have := box_lt H1.out; omega
  have b01 : Below w.heap.size w W1 := Below.comp q0 q1
  have hmk0 := hmk W0
  rw [hW1, hU] at hmk0
  clear hmk hU
  obtain ⟨e0, e1, -, -⟩ := box2_cells H2.out
  have HUw : Hid (w.heap.size + 1 ≤ U) := hUw
  have hzU : Hid (U < W1.heap.size) := box_lt HU.out
  clear hUw
  go_enter Try.func13, Try.ntmps13
  go_wp2
  clear i0 i1 e0 e1 hW0 hW1 hmk0
  have HBO : Hid (∀ wr, Out U (U + 1) W1 wr → Below w.heap.size w wr) := fun wr h => b01.trans ((h.below (Nat.le_of_lt hzU.out)).mono (by have := HUw.out; omega))
  go_loopw [17] (fun i wr => ∃ (j : Nat) (c : Array Value), j ≤ m ∧ i = .int .i64 (j : Int) ∧ Hid (∀ i, i < j → fOk n (gf u.fs i)) ∧ Hid (wr.heap[U]? = some (.cells c 3 (0, 0))) ∧ Hid (numsN n (tf u.fs j) c) ∧ Out U (U + 1) W1 wr) (fun i _ => m - (intOf i).toNat)
  case atStart => exact ⟨0, _, Nat.zero_le _, rfl, fun j h => absurd h (by omega), HU, fun i hi => by rw [Nat.mul_one]; exact made3 hi, Out.refl _ _ _⟩
  case round =>
    obtain ⟨j, c, hj, rfl, HFo, HUr, HNu, ho⟩ := hrel
    have hbw := HBO.out _ ho
    by_cases hlt : j < m
    · obtain ⟨b, off, rfl, hcell⟩ := HD.out (by omega)
      obtain ⟨fa, fc, k1w, k2, -⟩ := hcell j hlt
      have k1 := cell_on k1w hbw
      have hln := HLn.out j hlt
      have HSj : Hid (∀ k i, k ≤ (gf u.fs j).length → tf u.fs j i + pn (gf u.fs j) k i ≤ 1048576) := fun k i h => HSz.out j k i hlt h
      have HBad : Hid (¬ fOk n (gf u.fs j) → B = false) := fun h => by
        by_cases hb : B = true
        · exact absurd ((HG.out.1 hb).2.1 j (by rw [Hm.out]; exact hlt)) (by rw [Hn.out]; exact h)
        · simpa using hb
      have HTf : Hid (∀ i, tf u.fs (j + 1) i = tf u.fs j i + pn (gf u.fs j) (gf u.fs j).length i) := fun i => by rw [pn_all]; rfl
      have HGd : Hid (fOk n (gf u.fs j) → ∀ i, i < j + 1 → fOk n (gf u.fs i)) := fun h i hi => by
        by_cases e : i = j
        · subst e; exact h
        · exact HFo.out i (by omega)
      generalize gf u.fs j = l at k1 k2 hln HSj HBad HTf HGd
      generalize hg : tf u.fs j = f at HNu HSj HTf
      have HK2 : Hid (∀ W, Below w.heap.size w W → l.length ≠ 0 → ∃ b off, fa = some ⟨b, off, none⟩ ∧ ∀ i, i < l.length → W.cell? ⟨b, off + i, none⟩ = some (iv (gi l i))) := fun W h => k2.below h
      have HGf : Hid _ := hg
      obtain ⟨nl, hnl⟩ : ∃ nl, l.length = nl := ⟨_, rfl⟩
      have Hnl : Hid (l.length = nl) := hnl
      rw [hnl] at k1 hln HK2 HSj HTf
      clear hcell k2 hg hnl k1w
      obtain ⟨E, hE⟩ : ∃ E, wr.heap.size = E := ⟨_, rfl⟩
      obtain ⟨W2, hW2⟩ : ∃ W2, wr.alloc (.cells #[.slice fa nl fc] 44) = W2 := ⟨_, rfl⟩
      have b2 : Below wr.heap.size wr W2 := by subst hW2; exact below_alloc _ _
      have HE : Hid (W2.heap[E]? = some (.cells #[.slice fa nl fc] 44 (0, 0))) := by subst hW2 hE; exact al1 _ _
      obtain ⟨y0, -⟩ := box1_cells HE.out
      have HUE : Hid (U + 1 ≤ E) := by show _ ≤ _; have := ho.size; have := hzU.out; omega
      have HU2 : Hid (W2.heap[U]? = some (.cells c 3 (0, 0))) := box_on HUr.out b2
      have HO2 : Hid (Out U (U + 1) W1 W2) := ho.trans (Out.of_below b2)
      go_wp2
      clear k1 y0 hW2 hE
      go_loopw [24] (fun i wi => ∃ (k : Nat) (d : Array Value), k ≤ nl ∧ i = .int .i64 (k : Int) ∧ Hid (∀ i, i < k → 0 ≤ gi l i ∧ gi l i < n) ∧ Hid (wi.heap[U]? = some (.cells d 3 (0, 0))) ∧ Hid (numsN n (fun i => f i + pn l k i) d) ∧ Out U (U + 1) W2 wi) (fun i _ => nl - (intOf i).toNat)
      case atStart => exact ⟨0, c, Nat.zero_le _, rfl, fun j h => absurd h (by omega), HU2, fun i hi => by show _ = some (Value.int .i64 ((f i + pn l 0 i : Nat) : Int)); rw [pn_zero]; exact HNu.out i hi, Out.refl _ _ _⟩
      case round =>
        obtain ⟨k, d, hk, rfl, HR, HUd, HNd, ho2⟩ := hrel
        have HOw : Hid (Out U (U + 1) W1 wr) := HO2.out.trans ho2
        have hbi := HBO.out _ HOw.out
        by_cases hkl : k < nl
        · obtain ⟨fb, foff, rfl, hpc⟩ := HK2.out wr hbi (by have := Hnl.out; omega)
          have z0 : wr.cell? ⟨fb, foff + k, none⟩ = some (iv (gi l k)) := hpc k (by have := Hnl.out; omega)
          clear hpc
          have hkn' : (k : Int) < (nl : Int) := by omega
          have hx : Hid (∀ i, pn l (k + 1) i = pn l k i + if gi l k = (i : Int) then 1 else 0) := fun i => pn_succ (by rw [Hnl.out]; exact hkl) i
          have HB0 : Hid (¬ (0 ≤ gi l k ∧ gi l k < n) → B = false) := fun h => HBad.out (fun q => h (q.1 k (by rw [Hnl.out]; exact hkl)))
          have HG0 : Hid ((0 ≤ gi l k ∧ gi l k < n) → ∀ i, i < k + 1 → 0 ≤ gi l i ∧ gi l i < n) := fun h i hi => by
            by_cases e : i = k
            · subst e; exact h
            · exact HR.out i (by omega)
          generalize gi l k = x at z0 hx HB0 HG0
          have cI := fun W => l1In_any x 0 ((n : Int) - 1) W
          obtain ⟨e0, e1, -, -⟩ := box2_cells (box_out H2.out HOw.out (.inl (by have := HUw.out; omega)))
          by_cases hin : 0 ≤ x ∧ x < n
          · obtain ⟨y, rfl⟩ : ∃ y : Nat, x = (y : Int) := ⟨x.toNat, by omega⟩
            have hy : y < n := by omega
            rw [show (decide ((0 : Int) ≤ (y : Int)) && decide ((y : Int) ≤ (n : Int) - 1)) = true by simp; omega] at cI
            have HG1 := HG0.out hin
            have HGi : Hid _ := HG1
            obtain ⟨vy, hvy⟩ : ∃ vy, f y + pn l k y = vy := ⟨_, rfl⟩
            have hy0 : d[y]? = some (.int .i64 (vy : Int)) := by rw [← hvy]; exact HNd.out y hy
            have g0 := cell_of_block HUd.out hy0
            have f0 := free_of_block (i := y) HUd.out
            have hvb : vy ≤ 1048576 := by rw [← hvy]; exact HSj.out k y (by omega)
            have HV : Hid _ := hvy
            have hyd : Hid (y < d.size) := (Array.getElem?_eq_some_iff.1 hy0).1
            clear hin HB0 HG0 HG1 hvy hy0
            go_wp2_with (go_at_call 14; refine (cI _).mono ?_; rintro e w' ⟨rfl, hww⟩; rw [hww])
            go_roundw
            case rel =>
              refine ⟨k + 1, _, by omega, by go_num, HGi.out, block_set HUd.out, fun i hi => ?_, ho2.setCell (Nat.le_refl _) (Nat.lt_succ_self _) _ _⟩
              show _ = some (Value.int .i64 ((f i + pn l (k + 1) i : Nat) : Int))
              rw [hx.out i]
              by_cases e : i = y
              · subst e
                rw [set_at hyd.out, if_pos rfl, ← HV.out]
                simp
                omega
              · rw [set_ne e, if_neg (by omega)]
                exact HNd.out i hi
            case measure => simp [intOf]; omega
          · have hb0 := HB0.out hin
            subst hb0
            rw [show (decide ((0 : Int) ≤ x) && decide (x ≤ (n : Int) - 1)) = false by simp; omega] at cI
            clear hin HB0 HG0
            go_wp2_with (go_at_call 14; refine (cI _).mono ?_; rintro e w' ⟨rfl, hww⟩; rw [hww])
            go_ret
            exact ⟨rfl, hbi⟩
        · have hkn : k = nl := by omega
          subst hkn
          obtain ⟨y0, -⟩ := box1_cells (box_out HE.out ho2 (.inr HUE.out))
          by_cases h200 : k ≤ 200
          · have hd2 : decide ((200 : Int) < (k : Int)) = false := by simp; omega
            have hgd := HGd.out ⟨fun i hi => HR.out i (by have := Hnl.out; omega), by have := Hnl.out; omega⟩
            have HGD : Hid _ := hgd
            clear hgd
            go_wp2
            go_roundw
            case rel => exact ⟨j + 1, d, by omega, by go_num, HGD.out, HUd, fun i hi => by rw [HTf.out i]; exact HNd.out i hi, HOw.out⟩
            case measure => simp [intOf]; omega
          · have hd2 : (200 : Int) < (k : Int) := by omega
            have hb0 := HBad.out (fun q => by have := q.2; have := Hnl.out; omega)
            subst hb0
            go_wp2
            go_ret
            exact ⟨rfl, hbi⟩
    · have hjm : j = m := by omega
      subst hjm
      obtain ⟨V, hV⟩ : ∃ V, V = wr := ⟨_, rfl⟩
      subst hV
      have HFA : Hid (∀ i, i < j → fOk n (gf u.fs i)) := HFo
      obtain ⟨e0, e1, -, -⟩ := box2_cells (box_out H2.out ho (.inl (by have := HUw.out; omega)))
      have HVb : Hid (V.heap[w.heap.size]? = some (.cells #[.slice a n ca, .slice a' j ca'] 30 (0, 0))) := box_out H2.out ho (.inl (by have := HUw.out; omega))
      go_wp2
      clear e0 e1
      go_loopw [50] (fun i ws => ∃ (k : Nat), k ≤ n ∧ i = .int .i64 (k : Int) ∧ Hid (∀ i, i < k → pOk u i) ∧ Below V.heap.size V ws) (fun i _ => n - (intOf i).toNat)
      case atStart => exact ⟨0, Nat.zero_le _, rfl, fun j h => absurd h (by omega), Below.refl _ _⟩
      case round =>
        obtain ⟨k, hk, rfl, HPk, hb3⟩ := hrel
        have hb4 := hbw.trans (hb3.mono hbw.size)
        obtain ⟨e0, e1, -, -⟩ := box2_cells (box_on HVb.out hb3)
        by_cases hkl : k < n
        · obtain ⟨pb, poff, rfl, hpc⟩ := HC.out wr hb4 (by rw [Hn.out]; omega)
          obtain ⟨z0, z1⟩ := hpc k (by rw [Hn.out]; exact hkl)
          clear hpc
          have hkn' : (k : Int) < (n : Int) := by omega
          have hut := cell_of_block (box_on HUr.out hb3) (HNu.out k hkl)
          have HPo : Hid (pOk u k ↔ (1 ≤ (gm u.pc k).nm.size ∧ (gm u.pc k).nm.size ≤ 24) ∧ (∀ j, j < k → (gm u.pc j).nm ≠ (gm u.pc k).nm) ∧ (gm u.pc k).fl = ((tf u.fs j k : Nat) : Int) ∧ 1 ≤ (gm u.pc k).fl) := by
            show _ ↔ _
            unfold pOk
            rw [Hm.out]
          have HBad : Hid (¬ pOk u k → B = false) := fun h => by
            by_cases hb : B = true
            · exact absurd ((HG.out.1 hb).2.2 k (by rw [Hn.out]; exact hkl)) h
            · simpa using hb
          have HGd : Hid (pOk u k → ∀ i, i < k + 1 → pOk u i) := fun h i hi => by
            by_cases e : i = k
            · subst e; exact h
            · exact HPk.out i (by omega)
          have hsz := HK.out k hkl
          obtain ⟨r, hr⟩ := AtR.ex u.pc k (gm u.pc k).nm
          have HRn : Hid (r < 0 ↔ ∀ j, j < k → (gm u.pc j).nm ≠ (gm u.pc k).nm) := hr.none
          have HRr : Hid (AtR u.pc k (gm u.pc k).nm r) := hr
          clear hr
          have cSl := fun W => sliceK_to pb poff n ca k (by omega) W
          obtain ⟨t, ht⟩ : ∃ t, tf u.fs j k = t := ⟨_, rfl⟩
          rw [ht] at hut HPo
          clear ht
          obtain ⟨E2, hE2⟩ : ∃ E2, wr.heap.size = E2 := ⟨_, rfl⟩
          obtain ⟨W2, hW2⟩ : ∃ W2, wr.alloc (.cells #[.string (gm u.pc k).nm, .int .i64 (gm u.pc k).fl] 46) = W2 := ⟨_, rfl⟩
          have b2 : Below wr.heap.size wr W2 := by subst hW2; exact below_alloc _ _
          have HE2 : Hid (W2.heap[E2]? = some (.cells #[.string (gm u.pc k).nm, .int .i64 (gm u.pc k).fl] 46 (0, 0))) := by subst hW2 hE2; exact al1 _ _
          have hb6 := Below.comp hb3 b2
          have hb7 : Below w.heap.size w W2 := hbw.trans (hb6.mono hbw.size)
          have c65 := fun dd os => Calls.regrown_of (l15At_is (some ⟨pb, poff, none⟩) u.pc k ca (gm u.pc k).nm r (Go.Sort.grow (redrawn W2 dd) os) (by omega) (by rw [Hn.out]; omega) (HC.out _ (hb7.trans ((below_regrown W2 dd os).mono hb7.size))) HRr.out)
          clear HRr
          generalize (gm u.pc k).nm = tx at *
          generalize (gm u.pc k).fl = fl at *
          have c51 := fun dd os => same_regrown (W := W2) (fun q => l1In_any (tx.size : Int) 1 24 q) dd os
          obtain ⟨o1, ho1⟩ : ∃ o1, (decide ((1 : Int) ≤ (tx.size : Int)) && decide ((tx.size : Int) ≤ 24)) = o1 := ⟨_, rfl⟩
          have HO1 : Hid (o1 = true ↔ 1 ≤ tx.size ∧ tx.size ≤ 24) := by
            show _ ↔ _
            rw [← ho1, Bool.and_eq_true, decide_eq_true_eq, decide_eq_true_eq]
            omega
          rw [ho1] at c51
          clear ho1
          have v0 : ∀ d os, (Go.Sort.grow (redrawn W2 d) os).cell? ⟨E2, 0, none⟩ = some (.string tx) := fun d os => cell_regrown (box2_cells HE2.out).1 d os
          have v1 : ∀ d os, (Go.Sort.grow (redrawn W2 d) os).cell? ⟨E2, 1, none⟩ = some (.int .i64 fl) := fun d os => cell_regrown (box2_cells HE2.out).2.1 d os
          have v2 : ∀ d os, (Go.Sort.grow (redrawn W2 d) os).cell? ⟨w.heap.size, 0, none⟩ = some (.slice (some ⟨pb, poff, none⟩) n ca) := fun d os => cell_regrown (cell_on e0 b2) d os
          have v3 : ∀ d os, (Go.Sort.grow (redrawn W2 d) os).cell? ⟨U, k, none⟩ = some (.int .i64 (t : Int)) := fun d os => cell_regrown (cell_on hut b2) d os
          obtain ⟨d1, hd1⟩ : ∃ d1, decide ((0 : Int) ≤ r) = d1 := ⟨_, rfl⟩
          obtain ⟨d2, hd2⟩ : ∃ d2, (fl != (t : Int)) = d2 := ⟨_, rfl⟩
          obtain ⟨d3, hd3⟩ : ∃ d3, decide (fl < 1) = d3 := ⟨_, rfl⟩
          have HD1 : Hid (d1 = false ↔ r < 0) := by show _ ↔ _; rw [← hd1]; simp
          have HD2 : Hid (d2 = false ↔ fl = (t : Int)) := by show _ ↔ _; rw [← hd2]; simp
          have HD3 : Hid (d3 = false ↔ 1 ≤ fl) := by show _ ↔ _; rw [← hd3]; simp
          have hcs : o1 = false ∨ (o1 = true ∧ d1 = true) ∨ (o1 = true ∧ d1 = false ∧ d2 = true) ∨ (o1 = true ∧ d1 = false ∧ d2 = false ∧ d3 = true) ∨ (o1 = true ∧ d1 = false ∧ d2 = false ∧ d3 = false) := by
            cases o1 <;> cases d1 <;> cases d2 <;> cases d3 <;> simp
          clear hut
          rcases hcs with rfl | ⟨rfl, rfl⟩ | ⟨rfl, rfl, rfl⟩ | ⟨rfl, rfl, rfl, rfl⟩ | ⟨rfl, rfl, rfl, rfl⟩
          all_goals
            go_wp2
            clear z0 z1 hW2 e0 e1
            refine wp_region_quiet_below (by kernel_rfl) (by kernel_rfl) ?_
            repeat (go_big_quiet_step (first | with_reducible exact c65 _ _ | with_reducible exact c51 _ _))
            refine wpQuiet_nil ?_
            intro _ hw'
            obtain ⟨⟨dq2, osq2⟩, hw''⟩ := hw'
            subst hw''
            have b9 := below_regrown W2 dq2 osq2
            clear v0 v1 v2 v3 c65 c51 cSl
            generalize Go.Sort.grow (redrawn W2 dq2) osq2 = w9 at *
            go_wp2
          all_goals first
            | (go_ret
               have hb0 := HBad.out (fun h => by
                 obtain ⟨q1, q2, q3, q4⟩ := HPo.out.1 h
                 have p1 := HO1.out.2 q1
                 have p2 := HD1.out.2 (HRn.out.2 q2)
                 have p3 := HD2.out.2 q3
                 have p4 := HD3.out.2 q4
                 first | exact absurd p1 (by decide) | exact absurd p2 (by decide) | exact absurd p3 (by decide) | exact absurd p4 (by decide))
               subst hb0
               exact ⟨rfl, hb7.trans (b9.mono hb7.size)⟩)
            | (go_roundw
               case rel => exact ⟨k + 1, by omega, by go_num, HGd.out (HPo.out.2 ⟨HO1.out.1 (by first | rfl | trivial), HRn.out.1 (HD1.out.1 (by first | rfl | trivial)), HD2.out.1 (by first | rfl | trivial), HD3.out.1 (by first | rfl | trivial)⟩), Below.comp hb6 b9⟩
               case measure => simp [intOf]; omega)
        · have hkn : k = n := by omega
          subst hkn
          have HX : Hid (B = true ↔ k ≤ 100 ∧ j ≤ 20) := by
            show _ ↔ _
            rw [HG.out]
            constructor
            · rintro ⟨⟨h1, h2⟩, -⟩
              have := Hn.out
              have := Hm.out
              omega
            · rintro ⟨h1, h2⟩
              exact ⟨⟨by rw [Hn.out]; exact h1, by rw [Hm.out]; exact h2⟩, fun i hi => by rw [Hn.out]; exact HFA.out i (by rw [Hm.out] at hi; exact hi), fun i hi => HPk.out i (by rw [Hn.out] at hi; exact hi)⟩
          by_cases c1 : k ≤ 100
          · have c1' : decide ((k : Int) ≤ 100) = true := by simp; omega
            by_cases c2 : j ≤ 20
            · have c2' : decide ((j : Int) ≤ 20) = true := by simp; omega
              have hb0 : B = true := HX.out.2 ⟨c1, c2⟩
              subst hb0
              go_wp2
              go_ret
              exact ⟨rfl, hb4⟩
            · have c2' : decide ((j : Int) ≤ 20) = false := by simp; omega
              have hb0 : B = false := by
                by_cases hb : B = true
                · exact absurd (HX.out.1 hb).2 c2
                · simpa using hb
              subst hb0
              go_wp2
              go_ret
              exact ⟨rfl, hb4⟩
          · have c1' : decide ((k : Int) ≤ 100) = false := by simp; omega
            have hb0 : B = false := by
              by_cases hb : B = true
              · exact absurd (HX.out.1 hb).1 c1
              · simpa using hb
            subst hb0
            go_wp2
            go_ret
            exact ⟨rfl, hb4⟩
end Go.Proofs.Ytfphffbclpmobaa
