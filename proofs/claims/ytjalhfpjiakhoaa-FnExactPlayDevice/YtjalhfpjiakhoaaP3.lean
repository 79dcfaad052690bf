import Derived.Test.YtjalhfpjiakhoaaP2
namespace Go.Proofs.Ytjalhfpjiakhoaa
open Go.ChangeShapes Go.WideShapes Go.ChangeAt Go.RowKit
set_option linter.unusedVariables false

theorem stepNone {w w' : World} (hb : Below w.heap.size w w') : StepRes w w' (.returned (.tuple #[.agg #[.slice none 0 0, .slice none 0 0], .bool false])) none :=
  DevRes.none hb _ _ _
theorem fin_new {s : Int} {T : Nat → Int} {U : Nat → ByteArray} {l : Nat} (h : newOK s = false) : fin s T U l = none := by
  unfold fin
  split
  · exact play_none (j := 0) (by simp [play, h]) l (Nat.zero_le _)
  · rfl
theorem fin_stop {s : Int} {T : Nat → Int} {U : Nat → ByteArray} {l k : Nat} {p : Pst} (hp : play s T U k = some p) (hk : k < l) (h : plStep p (T k) (U k) = none) : fin s T U l = none := by
  unfold fin
  split
  · exact play_none (j := k + 1) (by unfold play; rw [hp]; exact h) l hk
  · rfl
theorem play_stop {s : Int} {T : Nat → Int} {U : Nat → ByteArray} {l k : Nat} {p : Pst} (hp : play s T U k = some p) (hk : k < l) (h : plStep p (T k) (U k) = none) : play s T U l = none :=
  play_none (j := k + 1) (by rw [play, hp]; exact h) l hk
theorem play_on {s : Int} {T : Nat → Int} {U : Nat → ByteArray} {k : Nat} {p q : Pst} (hp : play s T U k = some p) (h : plStep p (T k) (U k) = some q) : play s T U (k + 1) = some q := by
  rw [play, hp]; exact h
theorem nonempty_facts {t : Int} {u : ByteArray} (h : isFl t u = false) : (t == -1) = false ∨ ((t == -1) = true ∧ (u.toList == []) = false ∧ u.toList.isEmpty = false) := by
  have hno := of_decide_eq_false h
  by_cases h1 : t = -1
  · right
    have h2 : u.size ≠ 0 := fun h => hno ⟨h1, h⟩
    have h3 : u.toList ≠ [] := by
      intro h
      apply h2
      have hl : u.data.toList.length = 0 := by rw [← ByteArray.toList_eq, h]; rfl
      rw [Array.length_toList] at hl
      exact hl
    refine ⟨by simp [h1], by simp [h3], by simp [h3]⟩
  · left; simp [h1]

/-- The loop's state: the device in its box, its rows beside the box. -/
def Held (w wr : World) (D : Nat) (p : Pst) : Prop :=
  ∃ x cx y cy B C, wr.heap[D]? = some (.cells #[.slice x p.n cx, .slice y p.m cy] 25 (0, 0)) ∧ MineD wr B C x y p.n p.m p.S p.T p.U ∧ w.heap.size < B ∧ C ≤ wr.heap.size ∧ (C ≤ D ∨ D < B)
theorem MineD.strs {w : World} {B C : Nat} {x y : Option Addr} {N M : Nat} {S : Nat → ByteArray} {T : Nat → Int} {U : Nat → ByteArray} (h : MineD w B C x y N M S T U) : At w x N fun i => .string (S i) := h.1.strs
theorem MineD.wrts {w : World} {B C : Nat} {x y : Option Addr} {N M : Nat} {S : Nat → ByteArray} {T : Nat → Int} {U : Nat → ByteArray} (h : MineD w B C x y N M S T U) : At2 w y M T U := h.2.wrts
theorem Held.next {w w2 w3 : World} {D : Nat} {q : Pst} {x y : Option Addr} {cx cy : Nat} {v0 v1 : Value} (hD : w.heap.size < D) (h2 : D < w2.heap.size) (hb : w3.heap[D]? = some (.cells #[v0, v1] 25 (0, 0))) (hm : MineD w3 w2.heap.size w3.heap.size x y q.n q.m q.S q.T q.U) :
    Held w ((w3.setCell ⟨D, 0, none⟩ (.slice x q.n cx)).setCell ⟨D, 1, none⟩ (.slice y q.m cy)) D q :=
  ⟨x, cx, y, cy, w2.heap.size, w3.heap.size, block_set (block_set hb), hm.out (((Out.refl D (D + 1) w3).setCell (by omega) (by omega) _ _).setCell (by omega) (by omega) _ _) (.inr h2), by omega, by simp, .inr h2⟩

set_option maxHeartbeats 1600000 in
theorem specPlay_any (s : Int) (a : Option Addr) (l cap : Nat) (T : Nat → Int) (U : Nat → ByteArray) (w : World) (hl : l ≤ 1048576) (ha : At2 w a l T U) (hs : ∀ i, i < l → (U i).size ≤ 9223372036854775807) :
    Calls Try.prog 37 #[.int .i64 s, .slice a l cap] w fun e w' => StepRes w w' e (fin s T U l) := by
  have h0 : ∀ o1, Below w.heap.size w (w.alloc o1) := fun o1 => below_alloc _ _
  cases hok : newOK s
  · rw [fin_new hok]
    have e0 : newN s = 0 := by simp [newN, hok]
    go_enter Try.func37, Try.ntmps37
    go_wp2_with fail
    refine (specNew_any s _).mono ?_
    rw [e0, hok]
    rintro e w1 ⟨b1, x, cx, y, cy, rfl, mw⟩
    have g := Below.comp (h0 _) b1
    have r0 : w1.cell? ⟨w.heap.size, 0, none⟩ = some (.slice none 0 0) := cell_on (cell_new0 w _ _ _) b1
    have r1 : w1.cell? ⟨w.heap.size, 1, none⟩ = some (.slice none 0 0) := cell_on (cell_new1 w _ _ _) b1
    have rf : ∀ q, w1.frozen? ⟨w.heap.size, q, none⟩ = false := fun q => by rw [b1.frozen (p := ⟨w.heap.size, q, none⟩) (by simp)]; simp [go_sem]
    have rf0 := rf 0
    have rf1 := rf 1
    have s1 : w.heap.size + 1 ≤ w1.heap.size := by have := b1.size; simpa using this
    have R0 : ∀ o, (w1.alloc o).cell? ⟨w.heap.size, 0, none⟩ = some (.slice none 0 0) := fun o => hold_on r0
    have R1 : ∀ o, (w1.alloc o).cell? ⟨w.heap.size, 1, none⟩ = some (.slice none 0 0) := fun o => hold_on r1
    have F0 : ∀ o, (w1.alloc o).frozen? ⟨w.heap.size, 0, none⟩ = false := fun o => ((below_alloc w1 o).frozen (p := ⟨w.heap.size, 0, none⟩) (by simp; omega)).trans (rf 0)
    have F1 : ∀ o, (w1.alloc o).frozen? ⟨w.heap.size, 1, none⟩ = false := fun o => ((below_alloc w1 o).frozen (p := ⟨w.heap.size, 1, none⟩) (by simp; omega)).trans (rf 1)
    clear b1 h0 rf rf0 rf1 r0 r1
    go_wp2
    exact bodyPost_ret (v := .tuple #[.agg #[.slice none 0 0, .slice none 0 0], .bool false]) (by simp [results, Try.results37, go_sem, R0, R1]) rfl (stepNone (((Below.comp g (below_alloc _ _)).setCell (by simp) _).setCell (by simp) _))
  · by_cases hbig : 200 < l
    · have ef : fin s T U l = none := by unfold fin; rw [if_neg (by omega)]
      rw [ef]
      have d2 : (200 : Int) < (l : Int) := by omega
      go_enter Try.func37, Try.ntmps37
      go_wp2_with fail
      refine (specNew_any s _).mono ?_
      rw [hok]
      rintro e w1 ⟨b1, x, cx, y, cy, rfl, mw⟩
      have g := Below.comp (h0 _) b1
      have r0 : w1.cell? ⟨w.heap.size, 0, none⟩ = some (.slice none 0 0) := cell_on (cell_new0 w _ _ _) b1
      have r1 : w1.cell? ⟨w.heap.size, 1, none⟩ = some (.slice none 0 0) := cell_on (cell_new1 w _ _ _) b1
      have rf : ∀ q, w1.frozen? ⟨w.heap.size, q, none⟩ = false := fun q => by rw [b1.frozen (p := ⟨w.heap.size, q, none⟩) (by simp)]; simp [go_sem]
      have s1 : w.heap.size + 1 ≤ w1.heap.size := by have := b1.size; simpa using this
      have R0 : ∀ o, (w1.alloc o).cell? ⟨w.heap.size, 0, none⟩ = some (.slice none 0 0) := fun o => hold_on r0
      have R1 : ∀ o, (w1.alloc o).cell? ⟨w.heap.size, 1, none⟩ = some (.slice none 0 0) := fun o => hold_on r1
      have F0 : ∀ o, (w1.alloc o).frozen? ⟨w.heap.size, 0, none⟩ = false := fun o => ((below_alloc w1 o).frozen (p := ⟨w.heap.size, 0, none⟩) (by simp; omega)).trans (rf 0)
      have F1 : ∀ o, (w1.alloc o).frozen? ⟨w.heap.size, 1, none⟩ = false := fun o => ((below_alloc w1 o).frozen (p := ⟨w.heap.size, 1, none⟩) (by simp; omega)).trans (rf 1)
      clear h0 rf r0 r1
      clear b1
      go_wp2
      exact bodyPost_ret (v := .tuple #[.agg #[.slice none 0 0, .slice none 0 0], .bool false]) (by simp [results, Try.results37, go_sem, R0, R1]) rfl (stepNone (((Below.comp g (below_alloc _ _)).setCell (by simp) _).setCell (by simp) _))
    · have d2 : ¬ (200 : Int) < (l : Int) := by omega
      have ef : fin s T U l = play s T U l := by unfold fin; rw [if_pos (by omega)]
      rw [ef]
      have p0 : play s T U 0 = some ⟨newN s, 0, newS, noT, noU⟩ := by simp [play, hok]
      go_enter Try.func37, Try.ntmps37
      go_wp2_with fail
      refine (specNew_any s _).mono ?_
      rw [hok]
      rintro e w1 ⟨b1, x, cx, y, cy, rfl, mw⟩
      have g := Below.comp (h0 _) b1
      have r0 : w1.cell? ⟨w.heap.size, 0, none⟩ = some (.slice none 0 0) := cell_on (cell_new0 w _ _ _) b1
      have r1 : w1.cell? ⟨w.heap.size, 1, none⟩ = some (.slice none 0 0) := cell_on (cell_new1 w _ _ _) b1
      have rf : ∀ q, w1.frozen? ⟨w.heap.size, q, none⟩ = false := fun q => by rw [b1.frozen (p := ⟨w.heap.size, q, none⟩) (by simp)]; simp [go_sem]
      have s1 : w.heap.size + 1 ≤ w1.heap.size := by have := b1.size; simpa using this
      have R0 : ∀ o, (w1.alloc o).cell? ⟨w.heap.size, 0, none⟩ = some (.slice none 0 0) := fun o => hold_on r0
      have R1 : ∀ o, (w1.alloc o).cell? ⟨w.heap.size, 1, none⟩ = some (.slice none 0 0) := fun o => hold_on r1
      have F0 : ∀ o, (w1.alloc o).frozen? ⟨w.heap.size, 0, none⟩ = false := fun o => ((below_alloc w1 o).frozen (p := ⟨w.heap.size, 0, none⟩) (by simp; omega)).trans (rf 0)
      have F1 : ∀ o, (w1.alloc o).frozen? ⟨w.heap.size, 1, none⟩ = false := fun o => ((below_alloc w1 o).frozen (p := ⟨w.heap.size, 1, none⟩) (by simp; omega)).trans (rf 1)
      clear h0 rf r0 r1
      go_wp2
      obtain ⟨W, hW⟩ : ∃ W, W = w1.alloc (.cells #[.slice x (newN s) cx, .slice y 0 cy] 25) := ⟨_, rfl⟩
      have P0 : Hid _ := p0
      have hel : Held w W w1.heap.size ⟨newN s, 0, newS, noT, noU⟩ := by
        rw [hW]
        refine ⟨x, cx, y, cy, w.heap.size + 1, w1.heap.size, block_new rfl, ?_, by omega, by simp, .inl (Nat.le_refl _)⟩
        have := (mw.below (below_alloc w1 (.cells #[.slice x (newN s) cx, .slice y 0 cy] 25)))
        simpa using this
      have gW : Below w.heap.size w W := by rw [hW]; exact Below.comp g (below_alloc _ _)
      have RW0 := R0 (.cells #[.slice x (newN s) cx, .slice y 0 cy] 25)
      have RW1 := R1 (.cells #[.slice x (newN s) cx, .slice y 0 cy] 25)
      have FW0 := F0 (.cells #[.slice x (newN s) cx, .slice y 0 cy] 25)
      have FW1 := F1 (.cells #[.slice x (newN s) cx, .slice y 0 cy] 25)
      have sW : W.heap.size = w1.heap.size + 1 := by rw [hW]; simp
      rw [← hW] at RW0 RW1 FW0 FW1 ⊢
      generalize w1.heap.size = D at *
      have HH : Hid _ := hel
      have SW : Hid _ := sW
      have QW0 : Hid _ := RW0
      have QW1 : Hid _ := RW1
      have GW0 : Hid _ := FW0
      have GW1 : Hid _ := FW1
      clear hW hel mw R0 R1 F0 F1 b1 p0 g sW RW0 RW1 FW0 FW1
      go_loopw [25] (fun i wr => ∃ (k : Nat) (p : Pst), k ≤ l ∧ i = .int .i64 k ∧ play s T U k = some p ∧ Held w wr D p ∧ Below D W wr) (fun i _ => l - (intOf i).toNat)
      case atStart => exact ⟨0, _, Nat.zero_le _, rfl, P0.out, HH.out, Below.refl _ _⟩
      case round =>
        obtain ⟨k, p, hk, rfl, hp, hh, hb⟩ := hrel
        have hpg := play_good hp
        obtain ⟨x, cx, y, cy, B, C, hB, mw, hB1, hC, hBC⟩ := hh
        have c0 : wr.cell? ⟨D, 0, none⟩ = some (.slice x p.n cx) := cell_of_block hB rfl
        have c1 : wr.cell? ⟨D, 1, none⟩ = some (.slice y p.m cy) := cell_of_block hB rfl
        have f0 := free_of_block (i := 0) hB
        have f1 := free_of_block (i := 1) hB
        have q0 := (hb.cell (p := ⟨w.heap.size, 0, none⟩) (by simp; omega)).trans QW0.out
        have q1 := (hb.cell (p := ⟨w.heap.size, 1, none⟩) (by simp; omega)).trans QW1.out
        have qf0 := (hb.frozen (p := ⟨w.heap.size, 0, none⟩) (by simp; omega)).trans GW0.out
        have qf1 := (hb.frozen (p := ⟨w.heap.size, 1, none⟩) (by simp; omega)).trans GW1.out
        have hgr := gW.trans (hb.mono (by omega))
        by_cases hlt : k < l
        · have hlt' : (k : Int) < (l : Int) := by omega
          obtain ⟨b, off, rfl, hcell⟩ := (ha.below hgr) (by omega)
          obtain ⟨hck, hck2⟩ := hcell k hlt
          have hsk := hs k hlt
          have hbl := lt_of_cell hck
          have hDl : D < wr.heap.size := lt_of_cell c0
          clear hcell
          have HP : Hid _ := hp
          have HB : Hid _ := hB
          clear hp hB
          have A1 : ∀ o, At (wr.alloc o) x p.n fun i => .string (p.S i) := fun o => mw.strs.below (below_alloc _ _)
          have A2 : ∀ o, At2 (wr.alloc o) y p.m p.T p.U := fun o => mw.wrts.below (below_alloc _ _)
          have C0 : ∀ o, (wr.alloc o).cell? ⟨D, 0, none⟩ = some (.slice x p.n cx) := fun o => hold_on c0
          have C1 : ∀ o, (wr.alloc o).cell? ⟨D, 1, none⟩ = some (.slice y p.m cy) := fun o => hold_on c1
          cases hf : isFl (T k) (U k)
          · have e0 : plStep p (T k) (U k) = wrStep p (T k) (U k) := by unfold plStep; rw [hf]; rfl
            have dtu := nonempty_facts hf
            have E0 : Hid _ := e0
            clear hf e0
            have KW : Hid _ := specWr p hpg x y cx cy (T k) (U k)
            generalize hoo : wrStep p (T k) (U k) = o at KW
            rcases dtu with d1 | ⟨d1, d2', d3⟩
            · go_wp2_with fail
              refine (KW.out _ (A1 _) (A2 _) hsk).mono ?_
              rintro e w3 ⟨b3, x3, cx3, y3, cy3, rfl, mw3⟩
              have hB3 : w3.heap[D]? = some (.cells #[.slice x p.n cx, .slice y p.m cy] 25 (0, 0)) := (b3.block _ (by simp; omega)).trans (block_old HB.out)
              have hD3 : D < w3.heap.size := (Array.getElem?_eq_some_iff.1 hB3).1
              have HB3 : Hid _ := hB3
              have c30 : w3.cell? ⟨D, 0, none⟩ = some (.slice x p.n cx) := cell_of_block hB3 rfl
              have c31 : w3.cell? ⟨D, 1, none⟩ = some (.slice y p.m cy) := cell_of_block hB3 rfl
              have f30 := free_of_block (i := 0) hB3
              have f31 := free_of_block (i := 1) hB3
              have b3' : Below D W w3 := (hb.alloc (by omega) _).trans (b3.mono (by simp; omega))
              have hgr3 := gW.trans (b3'.mono (by omega))
              clear c0 c1 f0 f1 C0 C1 q0 q1 qf0 qf1 hB3
              cases o with
              | none =>
                have q0 := (b3'.cell (p := ⟨w.heap.size, 0, none⟩) (by simp; omega)).trans QW0.out
                have q1 := (b3'.cell (p := ⟨w.heap.size, 1, none⟩) (by simp; omega)).trans QW1.out
                have qf0 := (b3'.frozen (p := ⟨w.heap.size, 0, none⟩) (by simp; omega)).trans GW0.out
                have qf1 := (b3'.frozen (p := ⟨w.heap.size, 1, none⟩) (by simp; omega)).trans GW1.out
                have hr := play_stop HP.out hlt (E0.out.trans hoo)
                have HR : Hid _ := hr
                clear hr hoo
                have O3 : ∀ (u v : Value) (j : Nat), ((w3.setCell ⟨D, 0, none⟩ u).setCell ⟨D, 1, none⟩ v).cell? ⟨w.heap.size, j, none⟩ = w3.cell? ⟨w.heap.size, j, none⟩ := fun u v j => ((Below.refl D w3).setCell (p := ⟨D, 0, none⟩) (Nat.le_refl _) u |>.setCell (p := ⟨D, 1, none⟩) (Nat.le_refl _) v).cell (p := ⟨w.heap.size, j, none⟩) (by simp; omega)
                have O4 : ∀ (u v : Value) (j : Nat), ((w3.setCell ⟨D, 0, none⟩ u).setCell ⟨D, 1, none⟩ v).frozen? ⟨w.heap.size, j, none⟩ = w3.frozen? ⟨w.heap.size, j, none⟩ := fun u v j => ((Below.refl D w3).setCell (p := ⟨D, 0, none⟩) (Nat.le_refl _) u |>.setCell (p := ⟨D, 1, none⟩) (Nat.le_refl _) v).frozen (p := ⟨w.heap.size, j, none⟩) (by simp; omega)
                go_wp2
                exact bodyPost_ret (v := .tuple #[.agg #[.slice none 0 0, .slice none 0 0], .bool false]) (by simp [results, Try.results37, go_sem, O3, q0, q1]) rfl (by rw [HR.out]; exact stepNone ((((hgr3.setCell (by simp; omega) _).setCell (by simp; omega) _).setCell (by simp) _).setCell (by simp) _))
              | some q =>
                have hr := play_on HP.out (E0.out.trans hoo)
                have HR : Hid _ := hr
                clear hr hoo
                go_wp2
                go_roundw
                case rel => exact ⟨k + 1, q, by omega, by go_num, HR.out, Held.next (w2 := wr.alloc (.cells #[.int .i64 (T k), .string (U k)] 42)) (by omega) (by simp; omega) HB3.out mw3, (b3'.setCell (by simp) _).setCell (by simp) _⟩
                case measure => simp [intOf]; omega
            · go_wp2_with fail
              refine (KW.out _ (A1 _) (A2 _) hsk).mono ?_
              rintro e w3 ⟨b3, x3, cx3, y3, cy3, rfl, mw3⟩
              have hB3 : w3.heap[D]? = some (.cells #[.slice x p.n cx, .slice y p.m cy] 25 (0, 0)) := (b3.block _ (by simp; omega)).trans (block_old HB.out)
              have hD3 : D < w3.heap.size := (Array.getElem?_eq_some_iff.1 hB3).1
              have HB3 : Hid _ := hB3
              have c30 : w3.cell? ⟨D, 0, none⟩ = some (.slice x p.n cx) := cell_of_block hB3 rfl
              have c31 : w3.cell? ⟨D, 1, none⟩ = some (.slice y p.m cy) := cell_of_block hB3 rfl
              have f30 := free_of_block (i := 0) hB3
              have f31 := free_of_block (i := 1) hB3
              have b3' : Below D W w3 := (hb.alloc (by omega) _).trans (b3.mono (by simp; omega))
              have hgr3 := gW.trans (b3'.mono (by omega))
              clear c0 c1 f0 f1 C0 C1 q0 q1 qf0 qf1 hB3
              cases o with
              | none =>
                have q0 := (b3'.cell (p := ⟨w.heap.size, 0, none⟩) (by simp; omega)).trans QW0.out
                have q1 := (b3'.cell (p := ⟨w.heap.size, 1, none⟩) (by simp; omega)).trans QW1.out
                have qf0 := (b3'.frozen (p := ⟨w.heap.size, 0, none⟩) (by simp; omega)).trans GW0.out
                have qf1 := (b3'.frozen (p := ⟨w.heap.size, 1, none⟩) (by simp; omega)).trans GW1.out
                have hr := play_stop HP.out hlt (E0.out.trans hoo)
                have HR : Hid _ := hr
                clear hr hoo
                have O3 : ∀ (u v : Value) (j : Nat), ((w3.setCell ⟨D, 0, none⟩ u).setCell ⟨D, 1, none⟩ v).cell? ⟨w.heap.size, j, none⟩ = w3.cell? ⟨w.heap.size, j, none⟩ := fun u v j => ((Below.refl D w3).setCell (p := ⟨D, 0, none⟩) (Nat.le_refl _) u |>.setCell (p := ⟨D, 1, none⟩) (Nat.le_refl _) v).cell (p := ⟨w.heap.size, j, none⟩) (by simp; omega)
                have O4 : ∀ (u v : Value) (j : Nat), ((w3.setCell ⟨D, 0, none⟩ u).setCell ⟨D, 1, none⟩ v).frozen? ⟨w.heap.size, j, none⟩ = w3.frozen? ⟨w.heap.size, j, none⟩ := fun u v j => ((Below.refl D w3).setCell (p := ⟨D, 0, none⟩) (Nat.le_refl _) u |>.setCell (p := ⟨D, 1, none⟩) (Nat.le_refl _) v).frozen (p := ⟨w.heap.size, j, none⟩) (by simp; omega)
                go_wp2
                exact bodyPost_ret (v := .tuple #[.agg #[.slice none 0 0, .slice none 0 0], .bool false]) (by simp [results, Try.results37, go_sem, O3, q0, q1]) rfl (by rw [HR.out]; exact stepNone ((((hgr3.setCell (by simp; omega) _).setCell (by simp; omega) _).setCell (by simp) _).setCell (by simp) _))
              | some q =>
                have hr := play_on HP.out (E0.out.trans hoo)
                have HR : Hid _ := hr
                clear hr hoo
                go_wp2
                go_roundw
                case rel => exact ⟨k + 1, q, by omega, by go_num, HR.out, Held.next (w2 := wr.alloc (.cells #[.int .i64 (T k), .string (U k)] 42)) (by omega) (by simp; omega) HB3.out mw3, (b3'.setCell (by simp) _).setCell (by simp) _⟩
                case measure => simp [intOf]; omega
          · have e0 : plStep p (T k) (U k) = flStep p := by unfold plStep; rw [hf]; rfl
            obtain ⟨h1, h2⟩ := of_decide_eq_true hf
            have h3 := empty_of_size h2
            rw [h1] at hck
            rw [h3] at hck2
            have E0 : Hid _ := e0
            clear hf e0 h2 h1 h3
            have KW : Hid _ := specFl p hpg x y cx cy
            generalize hoo : flStep p = o at KW
            go_wp2_with fail
            refine (KW.out _ (A1 _) (A2 _)).mono ?_
            rintro e w3 ⟨b3, x3, cx3, y3, cy3, rfl, mw3⟩
            have hB3 : w3.heap[D]? = some (.cells #[.slice x p.n cx, .slice y p.m cy] 25 (0, 0)) := (b3.block _ (by simp; omega)).trans (block_old HB.out)
            have hD3 : D < w3.heap.size := (Array.getElem?_eq_some_iff.1 hB3).1
            have HB3 : Hid _ := hB3
            have c30 : w3.cell? ⟨D, 0, none⟩ = some (.slice x p.n cx) := cell_of_block hB3 rfl
            have c31 : w3.cell? ⟨D, 1, none⟩ = some (.slice y p.m cy) := cell_of_block hB3 rfl
            have f30 := free_of_block (i := 0) hB3
            have f31 := free_of_block (i := 1) hB3
            have b3' : Below D W w3 := (hb.alloc (by omega) _).trans (b3.mono (by simp; omega))
            have hgr3 := gW.trans (b3'.mono (by omega))
            clear c0 c1 f0 f1 C0 C1 q0 q1 qf0 qf1 hB3
            cases o with
            | none =>
              have q0 := (b3'.cell (p := ⟨w.heap.size, 0, none⟩) (by simp; omega)).trans QW0.out
              have q1 := (b3'.cell (p := ⟨w.heap.size, 1, none⟩) (by simp; omega)).trans QW1.out
              have qf0 := (b3'.frozen (p := ⟨w.heap.size, 0, none⟩) (by simp; omega)).trans GW0.out
              have qf1 := (b3'.frozen (p := ⟨w.heap.size, 1, none⟩) (by simp; omega)).trans GW1.out
              have hr := play_stop HP.out hlt (E0.out.trans hoo)
              have HR : Hid _ := hr
              clear hr hoo
              have O3 : ∀ (u v : Value) (j : Nat), ((w3.setCell ⟨D, 0, none⟩ u).setCell ⟨D, 1, none⟩ v).cell? ⟨w.heap.size, j, none⟩ = w3.cell? ⟨w.heap.size, j, none⟩ := fun u v j => ((Below.refl D w3).setCell (p := ⟨D, 0, none⟩) (Nat.le_refl _) u |>.setCell (p := ⟨D, 1, none⟩) (Nat.le_refl _) v).cell (p := ⟨w.heap.size, j, none⟩) (by simp; omega)
              have O4 : ∀ (u v : Value) (j : Nat), ((w3.setCell ⟨D, 0, none⟩ u).setCell ⟨D, 1, none⟩ v).frozen? ⟨w.heap.size, j, none⟩ = w3.frozen? ⟨w.heap.size, j, none⟩ := fun u v j => ((Below.refl D w3).setCell (p := ⟨D, 0, none⟩) (Nat.le_refl _) u |>.setCell (p := ⟨D, 1, none⟩) (Nat.le_refl _) v).frozen (p := ⟨w.heap.size, j, none⟩) (by simp; omega)
              go_wp2
              exact bodyPost_ret (v := .tuple #[.agg #[.slice none 0 0, .slice none 0 0], .bool false]) (by simp [results, Try.results37, go_sem, O3, q0, q1]) rfl (by rw [HR.out]; exact stepNone ((((hgr3.setCell (by simp; omega) _).setCell (by simp; omega) _).setCell (by simp) _).setCell (by simp) _))
            | some q =>
              have hr := play_on HP.out (E0.out.trans hoo)
              have HR : Hid _ := hr
              clear hr hoo
              go_wp2
              go_roundw
              case rel => exact ⟨k + 1, q, by omega, by go_num, HR.out, Held.next (w2 := wr.alloc (.cells #[.int .i64 (-1), .string ⟨#[]⟩] 42)) (by omega) (by simp; omega) HB3.out mw3, (b3'.setCell (by simp) _).setCell (by simp) _⟩
              case measure => simp [intOf]; omega
        · have hkl : k = l := by omega
          subst hkl
          have HP : Hid _ := hp
          clear hp
          go_wp2
          exact bodyPost_ret (v := .tuple #[.agg #[.slice x p.n cx, .slice y p.m cy], .bool true]) (by simp [results, Try.results37, go_sem, q0, q1]) rfl (by rw [HP.out]; exact StepRes.through (o := some p) (B := w.heap.size + 1) hgr (mw.mono (by omega) hC) (Nat.le_refl _) (by omega))
end Go.Proofs.Ytjalhfpjiakhoaa
