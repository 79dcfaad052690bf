import Derived.Test.YtmijalmihfgolaaDoorT4
import Derived.Test.YtmijalmihfgolaaDoorP3
/- Rows of writes that grow; a transaction read out of its text: the program's side. -/
namespace Go.Proofs.YtmijalmihfgolaaDoor
open Go.ChangeShapes Go.WideShapes Go.ChangeAt Go.RowKit
set_option linter.unusedVariables false
open Tx

attribute [local go_sem] Oper.semAt_some

def encW (x : Wr) : List Value := [.int .i64 x.s, .string x.d]
def cws (l : List Wr) : List Value := l.flatMap encW
theorem cws_app (l m : List Wr) : cws (l ++ m) = cws l ++ cws m := by simp [cws]
theorem cws_len : ∀ (l : List Wr), (cws l).length = l.length * 2
  | [] => rfl
  | x :: r => by
    have := cws_len r
    simp only [cws, List.flatMap_cons, List.length_append, List.length_cons, encW, List.length_nil] at this ⊢
    omega
theorem cws_one (l : List Wr) : ∀ u ∈ cws l, u.oneCell' = true := by
  intro u hu
  simp only [cws, List.mem_flatMap, encW] at hu
  obtain ⟨x, _, hu⟩ := hu
  simp only [List.mem_cons, List.not_mem_nil, or_false] at hu
  rcases hu with rfl | rfl <;> rfl
theorem cws_snoc (l : List Wr) (x : Wr) : cws (l ++ [x]) = cws l ++ [.int .i64 x.s, .string x.d] := by rw [cws_app]; rfl
theorem wrt_app : ∀ (l : List Wr) (x : Wr), wrtCells (l ++ [x]).length (Tl (l ++ [x])) (Ul (l ++ [x])) = wrtCells l.length (Tl l) (Ul l) ++ [.int .i64 x.s, .string x.d] := fun l x => by
  rw [List.length_append, List.length_singleton, wrtCells_succ]
  have e1 : Tl (l ++ [x]) l.length = x.s := congrArg Wr.s (gw_snoc l x)
  have e2 : Ul (l ++ [x]) l.length = x.d := congrArg Wr.d (gw_snoc l x)
  rw [e1, e2]
  rw [wrtCells_congr (T := Tl (l ++ [x])) (T' := Tl l) (U := Ul (l ++ [x])) (U' := Ul l) l.length (fun i hi => ⟨congrArg Wr.s (gw_app (m := [x]) hi), congrArg Wr.d (gw_app (m := [x]) hi)⟩)]
theorem cws_wrt (l : List Wr) : cws l = wrtCells l.length (Tl l) (Ul l) := by
  obtain ⟨m, hm⟩ : ∃ m, l.reverse = m := ⟨_, rfl⟩
  induction m generalizing l with
  | nil =>
    have : l = [] := by simpa using hm
    subst this
    rfl
  | cons x r ih =>
    have : l = r.reverse ++ [x] := by rw [← List.reverse_reverse l, hm]; simp
    subst this
    rw [wrt_app, cws_snoc, ih r.reverse (by simp)]
/-- A row of writes that the call made. -/
abbrev OwnW (w : World) (B : Nat) (v : Value) (l : List Wr) : Prop := w.ownsRow B 63 2 v l.length (cws l)
theorem OwnW.nil (w : World) (B : Nat) : OwnW w B (.slice none 0 0) [] := ⟨rfl, .inl ⟨rfl, rfl⟩⟩
theorem owns_cap {w : World} {B : Nat} {e : TypeId} {size n x c : Nat} {a : Option Addr} {xs : List Value} (h : w.ownsRow B e size (.slice a n c) n xs) : n ≤ c := by
  rcases h.2 with ⟨h1, h2⟩ | ⟨g, cap, cur, h1, _, _, h2, _⟩
  · cases h1; exact Nat.le_refl _
  · cases h1; exact h2
theorem OwnW.form {w : World} {B : Nat} {v : Value} {l : List Wr} (h : OwnW w B v l) : ∃ x c, v = .slice x l.length c ∧ l.length ≤ c ∧ Mine w B w.heap.size 63 l.length x (wrts l.length (Tl l) (Ul l)) := by
  obtain ⟨x, c, rfl⟩ := owns_form h
  refine ⟨x, c, rfl, owns_cap (x := 0) h, ?_⟩
  have h' := h
  rw [OwnW, cws_wrt] at h'
  exact owns_wrts h'
theorem srcW_one (w : World) (x : Wr) (t : TypeId) : (1 : Nat) = 0 ∨ ∃ ad, some (⟨w.heap.size, 0, none⟩ : Addr) = some ad ∧ ∀ j u, (cws [x])[j]? = some u → (w.alloc (.cells #[.int .i64 x.s, .string x.d] t)).cell? (ad.add j) = some u :=
  .inr ⟨_, rfl, new_two w _ _ _⟩
def RdRes (w w' : World) (e : Ending) (s : ByteArray) : Prop :=
  Below w.heap.size w w' ∧ ∃ v, e = .returned (.tuple #[v, .bool (rdB s)]) ∧ OwnW w' w.heap.size v (bif rdB s then rdL s else [])

theorem slice_mid (s : ByteArray) (a b : Nat) (h1 : a ≤ b) (h2 : b ≤ s.size) (w : World) : (Instr.slice 9 (.string s) (some (.int .i64 (a : Int))) (some (.int .i64 (b : Int))) none).run Tryd.prog w = .ok (.string (s.extract a b)) w := by
  rw [run_slice_string w 9 s .i64 .i64 (a : Int) (b : Int) Tryd.underlying9 (by omega) (by omega) (by omega)]
  simp
theorem slice_end (s : ByteArray) (a : Nat) (h1 : a ≤ s.size) (w : World) : (Instr.slice 9 (.string s) (some (.int .i64 (a : Int))) none none).run Tryd.prog w = .ok (.string (s.extract a s.size)) w := by
  rw [run_slice_string_from_if w 9 s .i64 (a : Int) Tryd.underlying9, if_pos (by omega)]
  simp
theorem RdRes.no {w w' : World} {s : ByteArray} (hb : Below w.heap.size w w') (h : rdB s = false) : RdRes w w' (.returned (.tuple #[.slice none 0 0, .bool false])) s := by
  rw [RdRes, h]
  exact ⟨hb, _, rfl, OwnW.nil _ _⟩
theorem RdRes.yes {w w' : World} {s : ByteArray} {v : Value} (hb : Below w.heap.size w w') (h : rdB s = true) (ho : OwnW w' w.heap.size v (rdL s)) : RdRes w w' (.returned (.tuple #[v, .bool true])) s := by
  rw [RdRes, h]
  exact ⟨hb, _, rfl, ho⟩
theorem few_of {l : List Wr} (h : ∀ i, i < l.length → (gw l i).d.size = 8) : Few l := fun i hi => by rw [h i hi]; decide
theorem rd_few {s : ByteArray} (h : lenB s = true) : Few (rdL s) := fun i hi => by
  rw [rdL_len] at hi
  have := lenB_iff.1 h
  rw [gw_lt (by rw [rdL_len]; exact hi)]
  simp only [rdL, List.getElem_map, List.getElem_range, rdW]
  rw [ext_size (by omega)]
  omega

set_option maxRecDepth 20000 in
set_option maxHeartbeats 4000000 in
theorem implRead_any (s : ByteArray) (w : World) (hs : s.size ≤ 9223372036854775807) :
    Calls Tryd.prog 101 #[.string s] w fun e w' => RdRes w w' e s := by
  have HN : Hid (∀ w', Below w.heap.size w w' → rdB s = false → RdRes w w' (.returned (.tuple #[.slice none 0 0, .bool false])) s) := fun w' h1 h2 => RdRes.no h1 h2
  have HB : Hid (rdB s = (lenB s && (txB 32 (rdL s) && sameT (tx (rdL s)) s))) := rfl
  by_cases h0 : s.size = 0
  · have hE : s.toList.isEmpty = true := by rw [isEmp, decide_eq_true h0]
    have hr : Hid (rdB s = false) := by rw [HB.out, show lenB s = false from decide_eq_false (fun h => h.1 h0)]; rfl
    go_enter Tryd.func101, Tryd.ntmps101
    go_wp2
    go_ret2
    exact HN.out _ (Below.refl _ _) hr.out
  have hE : s.toList.isEmpty = false := by rw [isEmp, decide_eq_false h0]
  have h0' : 0 < s.size := by omega
  obtain ⟨m, hm⟩ : ∃ m, (bt s 0).toNat = m := ⟨_, rfl⟩
  have hm' : s[0].toNat = m := by rw [← hm, bt_at h0']
  have hm256 : m < 256 := by rw [← hm]; exact UInt8.toNat_lt _
  have HM : Hid _ := hm
  clear hm
  by_cases h1 : s.size = 2 + m * 9
  · have hl : lenB s = true := lenB_iff.2 ⟨h0, by rw [HM.out]; exact h1⟩
    have h1' : ((s.size : Int) != 2 + (m : Int) * 9) = false := by simp; omega
    have h2 : 2 ≤ s.size := by omega
    have H1 : Hid (s.size = 2 + m * 9) := h1
    have HL : Hid (lenB s = true) := hl
    have Hlen : Hid ((rdL s).length = m) := by rw [rdL_len, HM.out]; exact rfl
    have Htk : Hid (∀ k, k < m → (rdL s).take (k + 1) = (rdL s).take k ++ [rdW s k]) := fun k hk => rdL_take s (by rw [HM.out]; exact hk)
    have Hall : Hid ((rdL s).take m = rdL s) := by rw [← HM.out]; exact rdL_all s
    have Htl : Hid (∀ k, k ≤ m → ((rdL s).take k).length = k) := fun k hk => by rw [List.length_take, Hlen.out]; omega
    have HRs : Hid (∀ k, k ≤ m → (rst s k).size = (m - k) * 9) := fun k hk => by have := rst_size hl (k := k) (by rw [HM.out]; exact hk); rw [HM.out] at this; exact this
    have HRw : Hid (∀ k, k < m → (⟨((bt (rst s k) 0).toNat : Int), (rst s k).extract 1 9⟩ : Wr) = rdW s k) := fun k hk => rst_W hl (by rw [HM.out]; exact hk)
    have HRn : Hid (∀ k, k < m → (rst s k).extract 9 (rst s k).size = rst s (k + 1)) := fun k hk => rst_next hl (by rw [HM.out]; exact hk)
    have HFw : Hid (Few (rdL s)) := rd_few hl
    have HR0 : Hid (s.extract 1 (s.size - 1) = rst s 0) := rfl
    have hsl : ∀ w, (Instr.slice 9 (.string s) (some (.int .i64 1)) (some (.int .i64 ((s.size : Int) - 1))) none).run Tryd.prog w = .ok (.string (rst s 0)) w := fun w => by
      have := slice_mid s 1 (s.size - 1) (by omega) (by omega) w
      rw [show (((s.size - 1 : Nat) : Int)) = (s.size : Int) - 1 by omega] at this
      exact this
    clear h1 hl
    go_enter Tryd.func101, Tryd.ntmps101
    go_wp2
    go_loopw [4, 5] (fun v r wr => ∃ (k : Nat), k ≤ m ∧ r = .string (rst s k) ∧ Hid (OwnW wr w.heap.size v ((rdL s).take k)) ∧ Hid (Below w.heap.size w wr)) (fun _ r _ => match r with | .string u => u.size | _ => 0)
    case atStart => exact ⟨0, Nat.zero_le _, rfl, by rw [List.take_zero]; exact OwnW.nil _ _, Below.refl _ _⟩
    case round =>
      obtain ⟨k, hk, rfl, hO, hb⟩ := hrel
      have hOw := hO.out
      unfold OwnW at hOw
      rw [Htl.out k hk] at hOw
      obtain ⟨y, yc, hy⟩ := owns_form hOw
      subst hy
      have hrs := HRs.out k hk
      by_cases hlt : k < m
      · have hW := HRw.out k hlt
        have hNx := HRn.out k hlt
        have hT := Htk.out k hlt
        generalize rst s k = r at *
        have hr9 : 9 ≤ r.size := by rw [hrs]; omega
        have hE2 : r.toList.isEmpty = false := by rw [isEmp, decide_eq_false (by omega)]
        have hr0 : 0 < r.size := by omega
        have hrb : r.size ≤ 9223372036854775807 := by rw [hrs]; omega
        obtain ⟨t, ht⟩ : ∃ t, (bt r 0).toNat = t := ⟨_, rfl⟩
        have ht' : r[0].toNat = t := by rw [← ht, bt_at hr0]
        have ht256 : t < 256 := by rw [← ht]; exact UInt8.toNat_lt _
        rw [ht] at hW
        have hs1 : ∀ w, (Instr.slice 9 (.string r) (some (.int .i64 1)) (some (.int .i64 9)) none).run Tryd.prog w = .ok (.string (r.extract 1 9)) w := fun w => slice_mid r 1 9 (by omega) hr9 w
        have hs9 : ∀ w, (Instr.slice 9 (.string r) (some (.int .i64 9)) none none).run Tryd.prog w = .ok (.string (r.extract 9 r.size)) w := fun w => slice_end r 9 hr9 w
        have HW : Hid _ := hW
        have HNx : Hid _ := hNx
        have HT : Hid _ := hT
        have HS : Hid _ := hrs
        have HO : Hid _ := hOw
        have hwr : IntKind.i64.wrap (t : Int) = (t : Int) := wrapI (by omega) (by omega)
        have hzw : w.heap.size ≤ wr.heap.size := hb.out.size
        have O2 : Hid (∀ W, Below wr.heap.size wr W → W.ownsRow w.heap.size 63 2 (.slice y k yc) k (cws ((rdL s).take k))) := fun W hW => owns_below HO.out hW
        clear hW hNx hT hrs ht hOw hO
        go_wp2
        go_region_held3 (fun _ => True) (trivial)
          (first
          | (refine step_append_src (by rfl) _ _ 30 (by rfl) w.heap.size 63 _ 2 24 Tryd.underlying30 info42 rfl (by decide) (.slice y k yc) k _ rfl (O2.out _ (by first | exact below_alloc _ _ | exact Below.drew (below_alloc _ _) | exact Below.comp (Below.drew (Below.refl _ wr)) (below_alloc _ _))) (some ⟨wr.heap.size, 0, none⟩) 1 1 (cws [⟨(t : Int), r.extract 1 9⟩]) rfl rfl (srcW_one wr ⟨(t : Int), r.extract 1 9⟩ 63) (cws_one _) (by omega) (by decide) (Nat.le_trans hzw (below_alloc wr _).size) ?_; intro v3 w3 own3 gr3; have b3 : Below w.heap.size wr w3 := (by first | exact grown_on ((below_alloc wr _).mono hzw) (Nat.le_trans hzw (below_alloc wr _).size) (O2.out _ (below_alloc _ _)) gr3 | exact grown_on (Below.drew ((below_alloc wr _).mono hzw)) (Nat.le_trans hzw (below_alloc wr _).size) (O2.out _ (Below.drew (below_alloc _ _))) gr3); obtain ⟨y3, cy3, rfl⟩ := owns_form own3))
        all_goals go_wp2
        all_goals go_roundw
        case rel =>
          refine ⟨k + 1, by omega, congrArg Value.string HNx.out, ?_, hb.out.trans b3⟩
          show OwnW _ _ _ _
          unfold OwnW
          rw [Htl.out (k + 1) (by omega), HT.out, cws_app, ← HW.out]
          exact own3
        case measure => show (r.extract 9 r.size).size < r.size; rw [ext_size (Nat.le_refl _)]; omega
      · obtain rfl : k = m := by omega
        have hE2 : (rst s k).toList.isEmpty = true := by rw [isEmp, decide_eq_true (by rw [hrs]; simp)]
        have hf : OwnW wr w.heap.size (.slice y k yc) (rdL s) := by
          have := hO.out
          rw [Hall.out] at this
          exact this
        obtain ⟨y', c', e', hcap, mf⟩ := OwnW.form hf
        have cX := implText_any y' c' (rdL s) wr (by rw [Hlen.out]; omega) HFw.out mf.wrts
        rw [← e'] at cX
        obtain ⟨T, hT⟩ : ∃ T, txB 32 (rdL s) = T := ⟨_, rfl⟩
        have hlb := HL.out
        have hB := HB.out
        rw [hlb, hT, Bool.true_and] at hB
        rw [hT] at cX
        have HF : Hid _ := hf
        have Hb2 : Hid _ := hB
        cases T with
        | false =>
          have hr : Hid (rdB s = false) := hB
          clear hf mf hO hOw hB HB e' hT hrs hlb
          go_wp2_with (go_at_call 103; refine cX.mono ?_; rintro e w2 ⟨rfl, b2⟩)
          go_ret2
          exact HN.out _ (Below.comp hb.out b2) hr.out
        | true =>
          simp only [cond_true] at cX
          rw [Bool.true_and] at hB
          by_cases heq : tx (rdL s) = s
          · have hr : Hid (rdB s = true) := by rw [hB, sameT_iff.2 heq]; exact rfl
            rw [heq] at cX
            clear hf mf hO hOw hB HB e' hT hrs hlb heq Hb2
            go_wp2_with (go_at_call 103; refine cX.mono ?_; rintro e w2 ⟨rfl, b2⟩)
            go_ret2
            exact RdRes.yes (Below.comp hb.out b2) hr.out (owns_below HF.out b2)
          · have hr : Hid (rdB s = false) := by
              rw [hB]
              cases q : sameT (tx (rdL s)) s with
              | false => exact rfl
              | true => exact absurd (sameT_iff.1 q) heq
            have heq' : ((tx (rdL s)).toList == s.toList) = false := same_no heq
            generalize tx (rdL s) = X at *
            clear hf mf hO hOw hB HB e' hT hrs hlb heq
            go_wp2_with (go_at_call 103; refine cX.mono ?_; rintro e w2 ⟨rfl, b2⟩)
            go_ret2
            exact HN.out _ (Below.comp hb.out b2) hr.out
  · have hr : Hid (rdB s = false) := by rw [HB.out, show lenB s = false from decide_eq_false (fun h => h1 (by rw [← HM.out]; exact h.2))]; rfl
    have h1' : ((s.size : Int) != 2 + (m : Int) * 9) = true := by simp; omega
    have HN1 : Hid (¬ s.size = 2 + m * 9) := h1
    clear h1
    go_enter Tryd.func101, Tryd.ntmps101
    go_wp2
    go_ret2
    exact HN.out _ (Below.refl _ _) hr.out
end Go.Proofs.YtmijalmihfgolaaDoor
