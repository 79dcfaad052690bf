import Derived.Test.YtcfjkejaenmibaaDoorH4
/- The specification: the records of a ring. -/
namespace Go.Proofs.YtcfjkejaenmibaaDoor
open Go.ChangeShapes Go.WideShapes Go.ChangeAt Go.RowKit
set_option linter.unusedVariables false
open Lg

attribute [local go_sem] Oper.semAt_some

/-- The cells of texts, one behind the other. -/
def cts (L : List ByteArray) : List Value := L.map .string
theorem cts_len (L : List ByteArray) : (cts L).length = L.length := by simp [cts]
theorem cts_app (L M : List ByteArray) : cts (L ++ M) = cts L ++ cts M := by simp [cts]
theorem cts_one (L : List ByteArray) : ∀ u ∈ cts L, u.oneCell' = true := by
  intro u hu
  simp only [cts, List.mem_map] at hu
  obtain ⟨x, _, rfl⟩ := hu
  rfl
/-- A row of texts that may be appended to. -/
abbrev OwnT (w : World) (B : Nat) (v : Value) (L : List ByteArray) : Prop := w.ownsRow B 9 1 v L.length (cts L)
theorem OwnT.nil (w : World) (B : Nat) : OwnT w B (.slice none 0 0) [] := ⟨rfl, .inl ⟨rfl, rfl⟩⟩
theorem infoT : (Tryd.prog.info? 9).map (fun i => (i.zero, i.size, i.bytes)) = some (some (.string ⟨#[]⟩), 1, 16) := by kernel_rfl
/-- The data of the records that count. -/
def rcs (l : List Sl) (h t : Int) : List ByteArray := (List.range (h - t).toNat).map fun (i : Nat) => (gs l (((t + (i : Int)) % (l.length : Int)).toNat)).d
theorem rcs_take {l : List Sl} {h t : Int} {i : Nat} (hi : i < (h - t).toNat) : (rcs l h t).take (i + 1) = (rcs l h t).take i ++ [(gs l (((t + (i : Int)) % (l.length : Int)).toNat)).d] := by
  unfold rcs
  rw [List.take_succ_eq_append_getElem (by simpa using hi)]
  simp
def bifT (b : Bool) (L : List ByteArray) : List ByteArray := bif b then L else []
set_option maxRecDepth 20000 in
set_option maxHeartbeats 4000000 in
theorem specRecs_any (a : Option Addr) (c : Nat) (l : List Sl) (h cy t : Int) (w : World) (hn : l.length ≤ 1048576) (hf : ∀ i, i < l.length → Few (gs l i)) (hh : i64 h) (hcy : i64 cy) (ht : i64 t) (ha : Sls w a l) :
    Calls Tryd.prog 28 #[rv a l.length c h cy t] w fun e w' => Below w.heap.size w w' ∧ ∃ v, e = .returned (.tuple #[v, .bool (gdB l h cy t)]) ∧ OwnT w' w.heap.size v (bifT (gdB l h cy t) (rcs l h t)) := by
  obtain ⟨D, hD⟩ : ∃ D, w.heap.size = D := ⟨_, rfl⟩
  obtain ⟨W0, hW0⟩ : ∃ W0, w.alloc (.cells #[.slice a l.length c, .int .i64 h, .int .i64 cy, .int .i64 t] 24) = W0 := ⟨_, rfl⟩
  have q0 : Below w.heap.size w W0 := by subst hW0; exact below_alloc _ _
  have HA : Hid (W0.heap[D]? = some (.cells #[.slice a l.length c, .int .i64 h, .int .i64 cy, .int .i64 t] 24 (0, 0))) := by subst hW0 hD; exact al1 _ _
  have cG := specGood_any a c l h cy t W0 hn hf hh hcy ht (ha.below q0)
  have HBd : Hid (gdB l h cy t = true → 2 ≤ l.length ∧ l.length ≤ 24 ∧ 0 ≤ h ∧ h ≤ 10000000 ∧ 0 ≤ t ∧ t ≤ h ∧ h - t ≤ l.length) := fun q => by have := gd_bd q; exact ⟨this.1, this.2.1, this.2.2.1, this.2.2.2.1, this.2.2.2.2.1, this.2.2.2.2.2.1, this.2.2.2.2.2.2.1⟩
  have HT : Hid (∀ i, i < (h - t).toNat → (rcs l h t).take (i + 1) = (rcs l h t).take i ++ [(gs l (((t + (i : Int)) % (l.length : Int)).toNat)).d]) := fun i hi => rcs_take hi
  have HTl : Hid (∀ i, i ≤ (h - t).toNat → ((rcs l h t).take i).length = i) := fun i hi => by simp [rcs]; omega
  have HTe : Hid ((rcs l h t).take (h - t).toNat = rcs l h t) := List.take_of_length_le (by simp [rcs])
  have HS : Hid (RowS w a l.length (gs l)) := ha
  obtain ⟨G, hG⟩ : ∃ G, gdB l h cy t = G := ⟨_, rfl⟩
  rw [hG] at cG HBd ⊢
  clear hG ha hf hh hcy ht hn
  generalize rcs l h t = RL at *
  generalize gs l = g at *
  generalize l.length = n at *
  obtain ⟨x0, x1, x2, x3⟩ := box4_cells HA.out
  go_enter Tryd.func28, Tryd.ntmps28
  go_wp2_with fail
  refine cG.mono ?_
  rintro e w1 ⟨rfl, b1⟩
  clear x0 x1 x2 x3 hW0 cG
  have g1 := Below.comp q0 b1
  cases G with
  | false =>
    go_wp2_with fail
    go_ret2
    exact ⟨by first | exact g1 | exact (hD ▸ g1), _, rfl, OwnT.nil _ _⟩
  | true =>
    have HA1 : Hid _ := box_on HA.out b1
    have HD1 : Hid (w.heap.size = D ∧ D < w1.heap.size) := ⟨hD, box_lt HA1.out⟩
    have HS1 : Hid _ := RowS.below HS.out g1
    have Hbd : Hid _ := HBd.out rfl
    obtain ⟨x0, x1, x2, x3⟩ := box4_cells HA1.out
    obtain ⟨m, hm⟩ : ∃ m, (h - t).toNat = m := ⟨_, rfl⟩
    rw [hm] at HT HTl HTe
    have Hm : Hid _ := hm
    obtain ⟨Z, hZ⟩ : ∃ Z, w1.heap.size = Z := ⟨_, rfl⟩
    have HZ : Hid (w1.heap.size = Z) := hZ
    clear hm hZ HBd HS HA
    go_wp2_with fail
    go_loopw [4, 5] (fun o k wr => ∃ (i : Nat), i ≤ m ∧ k = .int .i64 (t + (i : Int)) ∧ Hid (OwnT wr Z o (RL.take i)) ∧ Hid (Below Z w1 wr)) (fun _ k _ => (h - intOf k).toNat)
    case atStart => exact ⟨0, Nat.zero_le _, by simp, by rw [List.take_zero]; exact OwnT.nil _ _, Below.refl _ _⟩
    case round =>
      obtain ⟨i, hi, rfl, hO, hb⟩ := hrel
      have hbD := Hbd.out
      obtain ⟨k, hk⟩ : ∃ k, t + (i : Int) = k := ⟨_, rfl⟩
      have hOw := hO.out
      unfold OwnT at hOw
      rw [HTl.out i hi] at hOw
      obtain ⟨y, yc, hy⟩ := owns_form hOw
      subst hy
      have hbx : wr.heap[D]? = some (.cells #[.slice a n c, .int .i64 h, .int .i64 cy, .int .i64 t] 24 (0, 0)) := (hb.out.block D (by have := HD1.out; have := HZ.out; omega)).trans HA1.out
      obtain ⟨x0, x1, x2, x3⟩ := box4_cells hbx
      rw [hk]
      by_cases hlt : i < m
      · have hT := HT.out i hlt
        rw [hk] at hT
        obtain ⟨j, hj⟩ : ∃ j, (k % (n : Int)).toNat = j := ⟨_, rfl⟩
        rw [hj] at hT
        have hk0 : 0 ≤ k ∧ k < h := by have := Hm.out; omega
        have hjn : j < n := by
          have q1 := Int.emod_nonneg k (b := (n : Int)) (by omega)
          have q2 := Int.emod_lt_of_pos k (b := (n : Int)) (by omega)
          omega
        have hrm : Int.tmod k (n : Int) = (j : Int) := by
          have q1 := Int.emod_nonneg k (b := (n : Int)) (by omega)
          rw [Int.tmod_eq_emod_of_nonneg (by omega)]; omega
        have hrm2 : IntKind.i64.wrap (j : Int) = (j : Int) := wrapI (by omega) (by omega)
        have hn0 : ¬ ((n : Int) = 0) := by omega
        have hn0' : ((n : Int) == 0) = false := by simp; omega
        have hn0n : ¬ (n = 0) := by omega
        have hj0 : (0 : Int) ≤ (j : Int) := by omega
        have hj1 : (j : Int) < (n : Int) := by omega
        have hk1 : IntKind.i64.wrap (k + 1) = k + 1 := wrapI (by omega) (by omega)
        have hzw : Z ≤ wr.heap.size := by have := hb.out.size; have := HZ.out; omega
        obtain ⟨bb, off, rfl, hcell⟩ := HS1.out (by omega)
        have c2 : wr.cell? ⟨bb, off + j * 4 + 2, none⟩ = some (.string (g j).d) := by
          have q := (hcell j hjn).2.2.1
          rw [hb.out.cell (p := ⟨bb, off + j * 4 + 2, none⟩) (by have := lt_of_cell q; have := HZ.out; simp; omega)]; exact q
        obtain ⟨gd, hgd⟩ : ∃ gd, (g j).d = gd := ⟨_, rfl⟩
        rw [hgd] at c2 hT
        have HO : Hid _ := hOw
        have HTi : Hid _ := hT
        have Hk : Hid _ := hk
        have hm24 : i + 1 ≤ 24 := by have := Hm.out; omega
        have O2 : Hid (∀ W, Below wr.heap.size wr W → W.ownsRow Z 9 1 (.slice y i yc) i (cts (RL.take i))) := fun W hW => owns_below HO.out hW
        have SB : Hid (∀ W, Below Z wr W → W.cell? ⟨D, 0, none⟩ = some (.slice (some ⟨bb, off, none⟩) n c) ∧ W.cell? ⟨bb, off + j * 4 + 2, none⟩ = some (.string gd) ∧ Below Z wr W) := fun W z => ⟨by rw [z.cell (p := ⟨D, 0, none⟩) (by have := HD1.out; have := HZ.out; simp; omega)]; exact x0, by rw [z.cell (p := ⟨bb, off + j * 4 + 2, none⟩) (by have := lt_of_cell (hcell j hjn).2.2.1; have := HZ.out; simp; omega)]; exact c2, z⟩
        clear hOw hT hk hj hgd hcell hO hbD
        go_wp2
        go_region_held3 (fun W => W.cell? ⟨D, 0, none⟩ = some (.slice (some ⟨bb, off, none⟩) n c) ∧ W.cell? ⟨bb, off + j * 4 + 2, none⟩ = some (.string gd) ∧ Below Z wr W)
          ((refine SB.out _ ?_; first | assumption | exact Below.drew (Below.refl _ _) | exact b3 | exact (below_alloc _ _).mono hzw | exact Below.drew ((below_alloc _ _).mono hzw) | exact (Below.comp (Below.drew (Below.refl _ wr)) (below_alloc _ _)).mono hzw))
          (first
          | (refine step_append_src (by rfl) _ _ 48 (by rfl) Z 9 _ 1 16 Tryd.underlying48 infoT rfl (by decide) (.slice y i yc) i _ rfl (O2.out _ (by first | exact below_alloc _ _ | exact Below.drew (below_alloc _ _))) (some ⟨wr.heap.size, 0, none⟩) 1 1 (cts [gd]) rfl rfl (.inr ⟨_, rfl, new_one wr (.string gd) 9⟩) (cts_one _) (by omega) (by decide) (Nat.le_trans hzw (below_alloc wr _).size) ?_; intro v3 w3 own3 gr3; have b3 : Below Z wr w3 := (by first | exact grown_on ((below_alloc wr _).mono hzw) (Nat.le_trans hzw (below_alloc wr _).size) (O2.out _ (below_alloc _ _)) gr3 | exact grown_on (Below.drew ((below_alloc wr _).mono hzw)) (Nat.le_trans hzw (below_alloc wr _).size) (O2.out _ (Below.drew (below_alloc _ _))) gr3); obtain ⟨y3, cy3, rfl⟩ := owns_form own3))
        all_goals go_wp2
        all_goals go_roundw
        case rel =>
          refine ⟨i + 1, by omega, by have := Hk.out; rw [← this]; congr 1; omega, ?_, hb.out.trans b3⟩
          show OwnT _ _ _ _
          unfold OwnT
          rw [HTl.out (i + 1) (by omega), HTi.out, cts_app]
          exact own3
        case measure => have := Hk.out; simp [intOf]; omega
      · obtain rfl : i = m := by omega
        have hkh : ¬ (k < h) := by have := Hm.out; omega
        have HO : Hid (OwnT wr Z (.slice y i yc) (RL.take i)) := hO.out
        have HbD : Hid _ := hbD
        clear hOw hO hk hbD
        go_wp2
        go_ret2
        have gE : Below w.heap.size w wr := g1.trans (hb.out.mono (by have := HZ.out; have := g1.size; omega))
        refine ⟨by first | exact gE | exact (hD ▸ gE), _, rfl, ?_⟩
        have q : OwnT wr Z (.slice y i yc) (RL.take i) := HO.out
        rw [HTe.out] at q
        exact owns_mono q (by have := HD1.out; have := HZ.out; omega)
end Go.Proofs.YtcfjkejaenmibaaDoor
