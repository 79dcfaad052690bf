import Derived.Test.YtcfjkejaenmibaaDoorV1
import Derived.Deep.RegionLaw
import Derived.Deep.DeepCutAuto
/- spec.NewRing. -/
namespace Go.Proofs.YtcfjkejaenmibaaDoor
open Go.ChangeShapes Go.WideShapes Go.ChangeAt Go.RowKit
set_option linter.unusedVariables false
open Lg

attribute [local go_sem] Oper.semAt_some

theorem owns_out {w w' : World} {B C Z : Nat} {e : TypeId} {size n : Nat} {v : Value} {xs : List Value} (h : w.ownsRow Z e size v n xs) (ho : Out B C w w') (hd : C ≤ Z) : w'.ownsRow Z e size v n xs := by
  refine ⟨h.1, ?_⟩
  rcases h.2 with h0 | ⟨g, cap, cur, h1, hb, hg, hr⟩
  · exact .inl h0
  · exact .inr ⟨g, cap, cur, h1, hb, box_out hg ho (.inr (by omega)), hr⟩
theorem box4_set0 {w : World} {b : Nat} {v0 v1 v2 v3 v : Value} {e : TypeId} {z : Nat × Nat} (h : w.heap[b]? = some (.cells #[v0, v1, v2, v3] e z)) : (w.setCell ⟨b, 0, none⟩ v).heap[b]? = some (.cells #[v, v1, v2, v3] e z) := by
  rw [block_setz h]; rfl
/-- A ring of one's own: its value, its row in memory made between two marks. -/
def ROwn (w : World) (B C : Nat) (v : Value) (l : List Sl) (h cy t : Int) : Prop := ∃ a c, v = rv a l.length c h cy t ∧ l.length ≤ c ∧ MineS w B C a l.length (gs l)
/-- A new ring of so many slots. -/
def nwB (n : Int) : Bool := decide (2 ≤ n) && decide (n ≤ 24)
def nwL (n : Int) : List Sl := bif nwB n then List.replicate n.toNat blank else []
def nwC (n : Int) : Int := bif nwB n then 1 else 0
set_option maxHeartbeats 4000000 in
theorem specNew_any (x : Int) (w : World) : Calls Tryd.prog 11 #[.int .i64 x] w fun e w' => Below w.heap.size w w' ∧ ∃ v, e = .returned (.tuple #[v, .bool (nwB x)]) ∧ ROwn w' w.heap.size w'.heap.size v (nwL x) 0 (nwC x) 0 := by
  have c1 := fun W => l1In_any x 2 24 W
  have cZ := fun W => l10Zero_any W
  have HN : Hid (nwB x = false → nwL x = [] ∧ nwC x = 0) := fun h => by unfold nwL nwC; rw [h]; exact ⟨rfl, rfl⟩
  have HY : Hid (nwB x = true → nwL x = List.replicate x.toNat blank ∧ nwC x = 1 ∧ 2 ≤ x ∧ x ≤ 24) := fun h => by
    have h2 := h
    unfold nwB at h2
    simp at h2
    unfold nwL nwC; rw [h]; exact ⟨rfl, rfl, h2⟩
  rw [show (decide (2 ≤ x) && decide (x ≤ 24)) = nwB x from rfl] at c1
  obtain ⟨L, hL⟩ : ∃ L, nwL x = L := ⟨_, rfl⟩
  obtain ⟨CY, hCY⟩ : ∃ CY, nwC x = CY := ⟨_, rfl⟩
  obtain ⟨u, hu⟩ : ∃ u, nwB x = u := ⟨_, rfl⟩
  rw [hL, hCY, hu] at HN HY
  rw [hL, hCY, hu]
  rw [hu] at c1
  clear hL hCY hu
  obtain ⟨D, hD⟩ : ∃ D, w.heap.size = D := ⟨_, rfl⟩
  obtain ⟨W0, hW0⟩ : ∃ W0, w.alloc (.cells #[.slice none 0 0, .int .i64 0, .int .i64 0, .int .i64 0] 24) = W0 := ⟨_, rfl⟩
  have q0 : Below w.heap.size w W0 := by subst hW0; exact below_alloc _ _
  have HA : Hid (W0.heap[D]? = some (.cells #[.slice none 0 0, .int .i64 0, .int .i64 0, .int .i64 0] 24 (0, 0))) := by subst hW0 hD; exact al1 _ _
  have hz0 : W0.heap.size = D + 1 := by subst hW0 hD; simp
  have HZ0 : Hid _ := hz0
  clear hz0
  go_enter Tryd.func11, Tryd.ntmps11
  go_wp2_with fail
  refine (c1 _).mono ?_
  rintro e w1 ⟨rfl, hww⟩
  have hww := hww.symm
  subst hww
  obtain ⟨x0, x1, x2, x3⟩ := box4_cells HA.out
  obtain ⟨f0, f1, f2, f3⟩ := box4_free HA.out
  cases u with
  | false =>
    obtain ⟨rfl, rfl⟩ := HN.out rfl
    go_wp2_with fail
    obtain ⟨t0, t1, t2, t3⟩ := box4_cells (box4_set HA.out (x0 := .slice none 0 0) (x1 := .int .i64 0) (x2 := .int .i64 0) (x3 := .int .i64 0))
    refine bodyPost_ret (v := .tuple #[rv none 0 0 0 0 0, .bool false]) (by simp [results, Tryd.results11, go_sem, t0, t1, t2, t3]) rfl ⟨?_, _, rfl, none, 0, rfl, Nat.le_refl _, .inl rfl⟩
    exact set4_below q0 (by omega) _ _ _ _
  | true =>
    obtain ⟨rfl, rfl, h2, h24⟩ := HY.out rfl
    obtain ⟨n, rfl⟩ : ∃ n : Nat, x = n := ⟨x.toNat, by omega⟩
    clear x0 x1 x2 x3 f0 f1 f2 f3
    go_wp2_with fail
    obtain ⟨E, hE⟩ : ∃ E, W0.heap.size = E := ⟨_, rfl⟩
    obtain ⟨W1, hW1⟩ : ∃ W1, W0.alloc (.cells #[.slice none 0 0, .int .i64 0, .int .i64 1, .int .i64 0] 24) = W1 := ⟨_, rfl⟩
    have q1 : Below W0.heap.size W0 W1 := by subst hW1; exact below_alloc _ _
    have HB1 : Hid (W1.heap[E]? = some (.cells #[.slice none 0 0, .int .i64 0, .int .i64 1, .int .i64 0] 24 (0, 0))) := by subst hW1 hE; exact al1 _ _
    have HA1 : Hid _ := box_on HA.out q1
    have hz1 : W1.heap.size = E + 1 := by subst hW1 hE; simp
    have HZ1 : Hid _ := hz1
    have HDE : Hid (E = D + 1) := by show _ = _; rw [← hE]; exact HZ0.out
    have HQ1 : Hid (Below w.heap.size w W1) := Below.comp q0 q1
    rw [hE, hW1]
    clear hz1 hW1 hE hW0 q0 q1 HZ0 HA
    have HBe : Hid (∀ m, css (List.replicate m blank) ++ css [blank] = css (List.replicate (m + 1) blank)) := fun m => by rw [← css_app, List.replicate_succ']
    obtain ⟨bl, hbl⟩ : ∃ bl, blank = bl := ⟨_, rfl⟩
    have HL : Hid (List.replicate ((n : Int)).toNat blank = List.replicate n bl) := by show _ = _; rw [hbl]; rfl
    rw [hbl] at cZ HBe
    clear hbl HN HY
    obtain ⟨Z, hZ⟩ : ∃ Z, E + 1 = Z := ⟨_, rfl⟩
    have HZ : Hid _ := hZ
    clear hZ
    go_loopw [5] (fun i wr => ∃ (k : Nat) (v : Value), k ≤ n ∧ i = .int .i64 k ∧ Hid (wr.heap[E]? = some (.cells #[v, .int .i64 0, .int .i64 1, .int .i64 0] 24 (0, 0))) ∧ Hid (OwnS wr Z v (List.replicate k bl)) ∧ Hid (Below E W1 wr)) (fun i _ => n - (intOf i).toNat)
    case atStart => exact ⟨0, _, Nat.zero_le _, rfl, HB1, OwnS.nil _ _, Below.refl _ _⟩
    case round =>
      obtain ⟨k, v, hk, rfl, hBx, hOw, hb⟩ := hrel
      by_cases hlt : k < n
      · have hv := owns_form hOw.out
        obtain ⟨y, cy, rfl⟩ := hv
        have lenk : (List.replicate k bl).length = k := by simp
        rw [lenk] at hBx
        have hO : wr.ownsRow Z 41 4 (.slice y k cy) k (css (List.replicate k bl)) := by have := hOw.out; unfold OwnS at this; rw [lenk] at this; exact this
        have HO : Hid _ := hO
        obtain ⟨x0, x1, x2, x3⟩ := box4_cells hBx.out
        have hzw : Z ≤ wr.heap.size := Nat.le_trans (by have := HZ1.out; have := HZ.out; omega) hb.out.size
        have hw1 : IntKind.i64.wrap ((k : Int) + 1) = (((k + 1 : Nat) : Nat) : Int) := by rw [wrapI (by omega) (by omega)]; omega
        clear hO lenk x1 x2 x3
        obtain ⟨bc, bt, bd, bs⟩ := bl
        go_wp2
        go_region_law (first
          | (go_simp; go_at_call 42; refine (cZ _).mono ?_; rintro e w2 ⟨rfl, b2⟩; have b2' : Below wr.heap.size wr w2 := Below.comp (Below.drew (Below.refl _ wr)) b2; have x0' := cell_on x0 b2'; have x0'' := cell_on x0' (below_alloc w2 (.cells #[.int .i64 bc, .int .i64 bt, .string bd, .int .i64 bs] 41)); have O2 : Hid _ := owns_below (owns_below HO.out b2') (below_alloc w2 (.cells #[.int .i64 bc, .int .i64 bt, .string bd, .int .i64 bs] 41)))
          | (refine step_append_src (by rfl) _ _ 22 (by rfl) Z 41 _ 4 40 Tryd.underlying22 infoSl rfl (by decide) (.slice y k cy) k _ rfl O2.out (some ⟨w2.heap.size, 0, none⟩) 1 1 (css [⟨bc, bt, bd, bs⟩]) rfl rfl (srcS_one w2 ⟨bc, bt, bd, bs⟩ 41) (css_one _) (by omega) (by decide) (Nat.le_trans hzw (Nat.le_trans b2'.size (below_alloc w2 _).size)) ?_; intro v3 w3 own3 gr3; have b3 : Below Z wr w3 := grown_on ((Below.mono b2' hzw).trans ((below_alloc w2 _).mono (Nat.le_trans hzw b2'.size))) (Nat.le_trans hzw (Nat.le_trans b2'.size (below_alloc w2 _).size)) O2.out gr3; obtain ⟨y3, cy3, rfl⟩ := owns_form own3; have H3 : Hid (w3.heap[E]? = some (.cells #[.slice y k cy, .int .i64 0, .int .i64 1, .int .i64 0] 24 (0, 0))) := (b3.block E (by have := HZ.out; omega)).trans hBx.out; obtain ⟨z0, -, -, -⟩ := box4_cells H3.out; obtain ⟨f0, -, -, -⟩ := box4_free H3.out))
        all_goals go_wp2
        all_goals go_roundw
        case rel =>
          refine ⟨k + 1, _, by omega, by go_num, box4_set0 H3.out, owns_out (e := 41) (size := 4) ?_ (out_setCell w3 E 0 _) (by have := HZ.out; omega), (hb.out.trans (b3.mono (by have := HZ.out; omega))).setCell (Nat.le_refl _) _⟩
          have := own3
          rw [HBe.out] at this
          simpa using this
        case measure => simp [intOf]; omega
        case rel =>
          refine ⟨k + 1, _, by omega, by go_num, box4_set0 H3.out, owns_out (e := 41) (size := 4) ?_ (out_setCell w3 E 0 _) (by have := HZ.out; omega), (hb.out.trans (b3.mono (by have := HZ.out; omega))).setCell (Nat.le_refl _) _⟩
          have := own3
          rw [HBe.out] at this
          simpa using this
        case measure => simp [intOf]; omega
        case rel =>
          refine ⟨k + 1, _, by omega, by go_num, box4_set0 H3.out, owns_out (e := 41) (size := 4) ?_ (out_setCell w3 E 0 _) (by have := HZ.out; omega), (hb.out.trans (b3.mono (by have := HZ.out; omega))).setCell (Nat.le_refl _) _⟩
          have := own3
          rw [HBe.out] at this
          simpa using this
        case measure => simp [intOf]; omega
      · obtain rfl : k = n := by omega
        obtain ⟨y, cy, rfl, hcy, hM⟩ := OwnS.form hOw.out
        have hA := (hb.out.block D (by have := HDE.out; omega)).trans HA1.out
        have hwr : E < wr.heap.size := box_lt hBx.out
        obtain ⟨x0, x1, x2, x3⟩ := box4_cells hBx.out
        obtain ⟨y0, y1, y2, y3⟩ := box4_cells hA
        obtain ⟨f0, f1, f2, f3⟩ := box4_free hA
        have HA2 : Hid _ := hA
        have HM : Hid (MineS wr Z wr.heap.size y (List.replicate k bl).length (gs (List.replicate k bl))) := hM
        clear hA hM
        rw [List.length_replicate] at x0 hcy HM
        go_wp2
        obtain ⟨t0, t1, t2, t3⟩ := box4_cells (box4_set HA2.out (x0 := .slice y k cy) (x1 := .int .i64 0) (x2 := .int .i64 1) (x3 := .int .i64 0))
        have gW : Below w.heap.size w wr := HQ1.out.trans (hb.out.mono (by have := HDE.out; omega))
        refine bodyPost_ret (v := .tuple #[rv y k cy 0 1 0, .bool true]) (by simp [results, Tryd.results11, go_sem, t0, t1, t2, t3]) rfl ⟨set4_below gW (by omega) _ _ _ _, _, rfl, y, cy, ?_, ?_, ?_⟩
        · rw [HL.out, List.length_replicate]
        · rw [HL.out, List.length_replicate]; exact hcy
        · rw [HL.out, List.length_replicate]
          exact (Mine.out HM.out (set4_out _ _ _ _ _ _) (.inr (by have := HZ.out; have := HDE.out; omega))).mono (by have := HZ.out; have := HDE.out; omega) (set4_out _ _ _ _ _ _).size
end Go.Proofs.YtcfjkejaenmibaaDoor
