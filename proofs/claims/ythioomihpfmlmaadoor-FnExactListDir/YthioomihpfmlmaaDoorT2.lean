import Derived.Test.YthioomihpfmlmaaDoorT1
/- The specification: a path cut into names. -/
namespace Go.Proofs.YthioomihpfmlmaaDoor
open Go.ChangeShapes Go.WideShapes Go.ChangeAt Go.RowKit
set_option linter.unusedVariables false
open Hd

attribute [local go_sem] Oper.semAt_some

/-- What cutting a path tells. -/
def PathR (w : World) (p : ByteArray) (e : Ending) (w' : World) : Prop :=
  Below w.heap.size w w' ∧ ((∃ L a c, PN p = some L ∧ e = .returned (.tuple #[.slice a L.length c, .bool true]) ∧ L.length ≤ c ∧ Strs w' a L) ∨ (PN p = none ∧ ∃ a n c, e = .returned (.tuple #[.slice a n c, .bool false])))
/-- What holds on the way. -/
def St (p : ByteArray) (i : Nat) (out : List ByteArray) : Prop :=
  (∀ h : 0 < p.size, p[0] = 47 → pcs p 1 = out ++ (if i < p.size then pcs p (i + 1) else [])) ∧ out.all isN = true ∧ (∀ h0 : 0 < i, ∃ h : 0 < p.size, p[0] = 47) ∧ (∀ h : i < p.size, 0 < i → p[i] = 47) ∧ (i = 0 → out = [])
theorem St_start (p : ByteArray) : St p 0 [] := by
  refine ⟨fun h _ => ?_, rfl, fun h => absurd h (by omega), fun _ h => absurd h (by omega), fun _ => rfl⟩
  rw [if_pos h]; rfl
theorem St_next {p : ByteArray} {i : Nat} {out : List ByteArray} (h : St p i out) (hi : i < p.size) (hc : p[i] = 47) (hn : isN (p.extract (i + 1) (nx p (i + 1))) = true) : St p (nx p (i + 1)) (out ++ [p.extract (i + 1) (nx p (i + 1))]) := by
  have hge := nx_ge p (i + 1)
  have hle : nx p (i + 1) ≤ p.size := nx_le (by omega)
  have h0 : ∃ h : 0 < p.size, p[0] = 47 := by
    by_cases e : i = 0
    · subst e; exact ⟨hi, hc⟩
    · exact h.2.2.1 (by omega)
  refine ⟨fun hp hs => ?_, ?_, fun _ => h0, fun hlt _ => nx_at _ _ rfl hlt, fun e => absurd e (by omega)⟩
  · rw [h.1 hp hs, if_pos hi, pcs_step (i := i + 1) (by omega), List.append_assoc]
    rfl
  · rw [List.all_append, h.2.1]
    simp [hn]
theorem St_bad {p : ByteArray} (hne : p ≠ sl1) {i : Nat} {out : List ByteArray} (h : St p i out) (hi : i < p.size) (hc : p[i] = 47) (hn : isN (p.extract (i + 1) (nx p (i + 1))) = false ∨ 8 ≤ out.length) : PN p = none := by
  obtain ⟨hp, hs⟩ : ∃ h : 0 < p.size, p[0] = 47 := by
    by_cases e : i = 0
    · subst e; exact ⟨hi, hc⟩
    · exact h.2.2.1 (by omega)
  rw [PN_slash hne hp hs, h.1 hp hs, if_pos hi, pcs_step (i := i + 1) (by omega), if_neg]
  rintro ⟨h1, h2⟩
  rcases hn with hn | hn
  · simp [hn] at h2
  · simp at h1
    omega
theorem St_end {p : ByteArray} (hne : p ≠ sl1) {i : Nat} {out : List ByteArray} (h : St p i out) (hi : p.size ≤ i) (h8 : out.length ≤ 8) (h0 : 0 < i) : PN p = some out ∧ 0 < out.length := by
  obtain ⟨hp, hs⟩ := h.2.2.1 h0
  have e := h.1 hp hs
  rw [if_neg (by omega), List.append_nil] at e
  have : 0 < (pcs p 1).length := List.length_pos_iff.2 (pcs_ne p (by omega))
  rw [PN_slash hne hp hs, e, if_pos ⟨h8, h.2.1⟩]
  rw [e] at this
  exact ⟨rfl, this⟩
theorem isEmp (s : ByteArray) : s.toList.isEmpty = decide (s.size = 0) := by
  rw [Lib.toList_data, Bool.eq_iff_iff, decide_eq_true_eq, List.isEmpty_iff]
  rw [← List.length_eq_zero_iff]
  rfl
theorem sl1_list : (⟨#[47]⟩ : ByteArray).toList = [47] := by rw [Lib.toList_data]
set_option maxHeartbeats 4000000 in
set_option maxRecDepth 100000 in
theorem l13Path_any (p : ByteArray) (w : World) (hp : p.size ≤ 1048576) : Calls Tryd.prog 20 #[.string p] w (PathR w p) := by
  have he := eqs_is p ⟨#[47]⟩
  rw [sl1_list] at he
  by_cases hr : p = ⟨#[47]⟩
  · rw [decide_eq_true hr] at he
    have HPN : Hid (PN p = some []) := by show _ = _; rw [hr]; exact PN_root
    clear hr
    go_enter Tryd.func20, Tryd.ntmps20
    go_wp2
    go_ret2
    exact ⟨Below.refl _ _, .inl ⟨[], none, 0, HPN.out, rfl, Nat.le_refl _, Strs.nil⟩⟩
  · rw [decide_eq_false hr] at he
    have HNE : Hid (p ≠ sl1) := hr
    clear hr
    go_enter Tryd.func20, Tryd.ntmps20
    go_wp2
    go_loopw [0, 4] (fun s0 s4 wr => ∃ (i : Nat) (r : ByteArray) (out : List ByteArray), i ≤ p.size ∧ s0 = .string r ∧ Hid (r = p.extract i p.size) ∧ Hid (OwnS wr w.heap.size s4 out) ∧ out.length ≤ 8 ∧ Hid (St p i out) ∧ Below w.heap.size w wr) (fun s0 _ _ => (match s0 with | .string r => r.size | _ => 0))
    case atStart => exact ⟨0, p, [], Nat.zero_le _, rfl, (ext_all p).symm, OwnS.nil _ _, by simp, St_start p, Below.refl _ _⟩
    case round =>
      obtain ⟨i, r, out, hi, rfl, HR, HO, h8, HST, hb⟩ := hrel
      have hrs : r.size = p.size - i := by rw [HR.out, ext_size (Nat.le_refl _)]
      obtain ⟨y, yc, hy⟩ := owns_form HO.out
      subst hy
      have hem := isEmp r
      by_cases hlt : i < p.size
      · rw [decide_eq_false (by omega)] at hem
        have hr0 : 0 < r.size := by omega
        have hrb : r.size ≤ 1048576 := by omega
        have h00 : r[0] = p[i] := by
          have : ∀ r', r' = p.extract i p.size → (h : 0 < r'.size) → r'[0] = p[i] := by
            rintro r' rfl h
            have := ext_get (p := p) (i := i) (k := 0) (by omega) h
            simpa using this
          exact this r HR.out hr0
        obtain ⟨c, hc⟩ : ∃ c, r[0].toNat = c := ⟨_, rfl⟩
        by_cases hc47 : c = 47
        · have hp47 : p[i] = 47 := by
            rw [← h00]
            apply UInt8.toNat_inj.1
            rw [hc, hc47]
            rfl
          have h47 : ((c : Int) == 47) = true := by simp [hc47]
          have h47' : ((c : Int) != 47) = false := by simp [hc47]
          by_cases h8' : out.length = 8
          · have h8e : ((out.length : Int) == 8) = true := by simp [h8']
            have HNo : Hid (PN p = none) := St_bad HNE.out HST.out hlt hp47 (.inr (by omega))
            clear hc47 h00 hp47 h8' hrs
            generalize out.length = m at *
            go_wp2
            go_ret2
            exact ⟨hb, .inr ⟨HNo.out, none, 0, 0, rfl⟩⟩
          · have h8e : ((out.length : Int) == 8) = false := by simp; omega
            have h8n : ¬ out.length = 8 := h8'
            have HP47 : Hid _ := hp47
            clear hc47 h00 hp47 h8'
            have HRS : Hid _ := hrs
            have Hm : Hid _ := h8
            have HRG : Hid (∀ k (h : k < r.size), ∃ h' : i + k < p.size, r[k] = p[i + k]) := fun k h => by
              have : ∀ r', r' = p.extract i p.size → (h : k < r'.size) → ∃ h' : i + k < p.size, r'[k] = p[i + k] := by
                rintro r' rfl h
                have hs : (p.extract i p.size).size = p.size - i := ext_size (Nat.le_refl _)
                exact ⟨by omega, ext_get (by omega) h⟩
              exact this r HR.out h
            clear hrs
            generalize hml : out.length = m at *
            have HML : Hid _ := hml
            clear hml
            go_wp2
            go_loop [5] (fun x => ∃ e : Nat, 1 ≤ e ∧ e ≤ r.size ∧ x = .int .i64 e ∧ Hid (nx p (i + 1) = nx p (i + e))) (fun x => r.size - (intOf x).toNat)
            case atStart => exact ⟨1, Nat.le_refl _, by omega, rfl, rfl⟩
            case round =>
              obtain ⟨e, he1, her, rfl, HX⟩ := hrel
              by_cases hel : e < r.size
              · obtain ⟨hip, hre⟩ := HRG.out e hel
                obtain ⟨d, hd⟩ : ∃ d, r[e].toNat = d := ⟨_, rfl⟩
                have hel' : decide ((e : Int) < (r.size : Int)) = true := by simp; omega
                by_cases hd47 : d = 47
                · have hn47 : ((d : Int) == 47) = true := by simp [hd47]
                  have hn47' : ((d : Int) != 47) = false := by simp [hd47]
                  have hnx : nx p (i + 1) = i + e := by rw [HX.out]; exact nx_stop hip (by rw [← hre]; apply UInt8.toNat_inj.1; rw [hd, hd47]; rfl)
                  have hs1 : ∀ w, (Instr.slice 9 (.string r) (some (.int .i64 1)) (some (.int .i64 (e : Int))) none).run Tryd.prog w = .ok (.string (r.extract 1 e)) w := fun w => slice_mid r 1 e he1 her w
                  have hs2 : ∀ w, (Instr.slice 9 (.string r) (some (.int .i64 (e : Int))) none none).run Tryd.prog w = .ok (.string (r.extract e r.size)) w := fun w => slice_end r e her w
                  obtain ⟨q, hq⟩ : ∃ q, r.extract 1 e = q := ⟨_, rfl⟩
                  obtain ⟨r2, hr2⟩ : ∃ r2, r.extract e r.size = r2 := ⟨_, rfl⟩
                  rw [hq] at hs1
                  rw [hr2] at hs2
                  have hrs := HRS.out
                  have hqe : q = p.extract (i + 1) (nx p (i + 1)) := by rw [← hq, HR.out, ext_ext _ _ _ _ _ (by omega), hnx]
                  have HR2 : Hid (r2 = p.extract (nx p (i + 1)) p.size) := by
                    show r2 = _
                    rw [← hr2, hrs, HR.out, ext_ext _ _ _ _ _ (by omega), hnx]
                    congr 1
                    omega
                  have hqs : q.size ≤ 1048576 := by rw [← hq, ext_size her]; omega
                  have HSZ : Hid (r2.size < r.size) := by show _ < _; rw [← hr2, ext_size (Nat.le_refl _)]; omega
                  have HLE : Hid (nx p (i + 1) ≤ p.size) := nx_le (by omega)
                  have cN := fun W => l8Name_any q W (by omega)
                  have HBad : Hid (isN q = false → PN p = none) := fun h => St_bad HNE.out HST.out hlt HP47.out (.inl (by rw [← hqe]; exact h))
                  have HGood : Hid (isN q = true → St p (nx p (i + 1)) (out ++ [q])) := fun h => by
                    have h6 := St_next HST.out hlt HP47.out (by rw [← hqe]; exact h)
                    rw [← hqe] at h6
                    exact h6
                  clear hrs hqe hnx HX hd47 hre
                  obtain ⟨o, ho⟩ : ∃ o, isN q = o := ⟨_, rfl⟩
                  rw [ho] at cN HBad HGood
                  clear ho
                  cases o with
                  | false =>
                    go_wp2_with (go_at_call 33; refine (cN _).mono ?_; rintro e w' ⟨rfl, hww⟩; rw [hww])
                    go_ret2
                    exact ⟨hb, .inr ⟨HBad.out (by first | rfl | trivial), none, 0, 0, rfl⟩⟩
                  | true =>
                    have own1 : (wr.alloc (.cells #[.string q] 9)).ownsRow w.heap.size 9 1 (.slice y m yc) m (css out) := by
                      have h6 := owns_below HO.out (below_alloc wr (.cells #[.string q] 9))
                      rwa [HML.out] at h6
                    have sr := src_new wr (.string q) 9
                    have z1 : w.heap.size ≤ (wr.alloc (.cells #[.string q] 9)).heap.size := Nat.le_trans hb.size (below_alloc _ _).size
                    have hwz : w.heap.size ≤ wr.heap.size := hb.size
                    go_wp2_with (first
                      | (go_at_call 33; refine (cN _).mono ?_; rintro e w' ⟨rfl, hww⟩; rw [hww])
                      | (at_builtin; refine wpList_append_src rfl _ _ 41 rfl w.heap.size 9 _ 1 16 Tryd.underlying41 info9 rfl (by decide) (.slice y m yc) m (css out) rfl own1 (some ⟨wr.heap.size, 0, none⟩) 1 1 [.string q] rfl rfl sr (by simp [Value.oneCell']) (by omega) (by decide) z1 ?_; intro v1 w1 own2 gr1; have b1 : Below w.heap.size w w1 := grown_on (Below.comp hb (below_alloc _ _)) z1 own1 gr1; have OW : Hid (OwnS w1 w.heap.size v1 (out ++ [q])) := (by show OwnS _ _ _ _; unfold OwnS; rw [List.length_append, HML.out, css_app]; exact own2); clear own2 gr1))
                    go_roundw
                    case rel => exact ⟨nx p (i + 1), r2, out ++ [q], HLE.out, rfl, HR2, OW, by rw [List.length_append, HML.out]; have := Hm.out; simp; omega, HGood.out (by first | rfl | trivial), b1⟩
                    case measure => exact HSZ.out
                · have hn47 : ((d : Int) == 47) = false := by simp; omega
                  have hn47' : ((d : Int) != 47) = true := by simp; omega
                  have HX2 : Hid (nx p (i + 1) = nx p (i + (e + 1))) := by
                    show _ = _
                    rw [HX.out, nx_go hip (fun h => hd47 (by rw [← hd, hre, h]; rfl))]
                    rfl
                  clear hd47 hre
                  go_wp2
                  go_round
                  case rel => exact ⟨e + 1, by omega, by omega, by go_num, HX2⟩
                  case measure => simp [intOf]; omega
              · have hel' : decide ((e : Int) < (r.size : Int)) = false := by simp; omega
                have hnx : nx p (i + 1) = i + e := by rw [HX.out]; exact nx_end (by have := HRS.out; omega)
                have hs1 : ∀ w, (Instr.slice 9 (.string r) (some (.int .i64 1)) (some (.int .i64 (e : Int))) none).run Tryd.prog w = .ok (.string (r.extract 1 e)) w := fun w => slice_mid r 1 e he1 her w
                have hs2 : ∀ w, (Instr.slice 9 (.string r) (some (.int .i64 (e : Int))) none none).run Tryd.prog w = .ok (.string (r.extract e r.size)) w := fun w => slice_end r e her w
                obtain ⟨q, hq⟩ : ∃ q, r.extract 1 e = q := ⟨_, rfl⟩
                obtain ⟨r2, hr2⟩ : ∃ r2, r.extract e r.size = r2 := ⟨_, rfl⟩
                rw [hq] at hs1
                rw [hr2] at hs2
                have hrs := HRS.out
                have hqe : q = p.extract (i + 1) (nx p (i + 1)) := by rw [← hq, HR.out, ext_ext _ _ _ _ _ (by omega), hnx]
                have HR2 : Hid (r2 = p.extract (nx p (i + 1)) p.size) := by
                  show r2 = _
                  rw [← hr2, hrs, HR.out, ext_ext _ _ _ _ _ (by omega), hnx]
                  congr 1
                  omega
                have hqs : q.size ≤ 1048576 := by rw [← hq, ext_size her]; omega
                have HSZ : Hid (r2.size < r.size) := by show _ < _; rw [← hr2, ext_size (Nat.le_refl _)]; omega
                have HLE : Hid (nx p (i + 1) ≤ p.size) := nx_le (by omega)
                have cN := fun W => l8Name_any q W (by omega)
                have HBad : Hid (isN q = false → PN p = none) := fun h => St_bad HNE.out HST.out hlt HP47.out (.inl (by rw [← hqe]; exact h))
                have HGood : Hid (isN q = true → St p (nx p (i + 1)) (out ++ [q])) := fun h => by
                  have h6 := St_next HST.out hlt HP47.out (by rw [← hqe]; exact h)
                  rw [← hqe] at h6
                  exact h6
                clear hrs hqe hnx HX
                obtain ⟨o, ho⟩ : ∃ o, isN q = o := ⟨_, rfl⟩
                rw [ho] at cN HBad HGood
                clear ho
                cases o with
                | false =>
                  go_wp2_with (go_at_call 33; refine (cN _).mono ?_; rintro e w' ⟨rfl, hww⟩; rw [hww])
                  go_ret2
                  exact ⟨hb, .inr ⟨HBad.out (by first | rfl | trivial), none, 0, 0, rfl⟩⟩
                | true =>
                  have own1 : (wr.alloc (.cells #[.string q] 9)).ownsRow w.heap.size 9 1 (.slice y m yc) m (css out) := by
                    have h6 := owns_below HO.out (below_alloc wr (.cells #[.string q] 9))
                    rwa [HML.out] at h6
                  have sr := src_new wr (.string q) 9
                  have z1 : w.heap.size ≤ (wr.alloc (.cells #[.string q] 9)).heap.size := Nat.le_trans hb.size (below_alloc _ _).size
                  have hwz : w.heap.size ≤ wr.heap.size := hb.size
                  go_wp2_with (first
                    | (go_at_call 33; refine (cN _).mono ?_; rintro e w' ⟨rfl, hww⟩; rw [hww])
                    | (at_builtin; refine wpList_append_src rfl _ _ 41 rfl w.heap.size 9 _ 1 16 Tryd.underlying41 info9 rfl (by decide) (.slice y m yc) m (css out) rfl own1 (some ⟨wr.heap.size, 0, none⟩) 1 1 [.string q] rfl rfl sr (by simp [Value.oneCell']) (by omega) (by decide) z1 ?_; intro v1 w1 own2 gr1; have b1 : Below w.heap.size w w1 := grown_on (Below.comp hb (below_alloc _ _)) z1 own1 gr1; have OW : Hid (OwnS w1 w.heap.size v1 (out ++ [q])) := (by show OwnS _ _ _ _; unfold OwnS; rw [List.length_append, HML.out, css_app]; exact own2); clear own2 gr1))
                  go_roundw
                  case rel => exact ⟨nx p (i + 1), r2, out ++ [q], HLE.out, rfl, HR2, OW, by rw [List.length_append, HML.out]; have := Hm.out; simp; omega, HGood.out (by first | rfl | trivial), b1⟩
                  case measure => exact HSZ.out
        · have hp47 : p[i] ≠ 47 := fun h => hc47 (by rw [← hc, h00, h]; rfl)
          have h47 : ((c : Int) == 47) = false := by simp; omega
          have h47' : ((c : Int) != 47) = true := by simp; omega
          have hi0 : i = 0 := by
            by_cases e : i = 0
            · exact e
            · exact absurd (HST.out.2.2.2.1 hlt (by omega)) hp47
          have HNo : Hid (PN p = none) := by
            subst hi0
            exact PN_noslash HNE.out hlt hp47
          clear hi0 hp47 hc47 h00 hrs
          generalize out.length = m at *
          go_wp2
          go_ret2
          exact ⟨hb, .inr ⟨HNo.out, none, 0, 0, rfl⟩⟩
      · rw [decide_eq_true (by omega)] at hem
        obtain ⟨y', yc', ey, hyc, hys⟩ := OwnS.strs HO.out
        simp only [Value.slice.injEq, true_and] at ey
        obtain ⟨rfl, rfl⟩ := ey
        have HYS : Hid _ := hys
        have HEnd : Hid (0 < i → PN p = some out ∧ 0 < out.length) := fun h0 => St_end HNE.out HST.out (by omega) h8 h0
        have HEmp : Hid (i = 0 → PN p = none ∧ out = []) := fun h0 => ⟨PN_empty (by omega), HST.out.2.2.2.2 h0⟩
        clear hys hrs
        by_cases hi0 : i = 0
        · obtain ⟨hpn, ho⟩ := HEmp.out hi0
          have HPN : Hid _ := hpn
          have hol : out.length = 0 := by rw [ho]; rfl
          rw [hol]
          clear hpn ho hi0 hol
          go_wp2
          go_ret2
          exact ⟨hb, .inr ⟨HPN.out, _, _, _, rfl⟩⟩
        · obtain ⟨hpn, ho⟩ := HEnd.out (by omega)
          have HPN : Hid _ := hpn
          have hol : decide ((0 : Int) < (out.length : Int)) = true := by simp; omega
          have hol2 : ¬ out.length = 0 := by omega
          clear hpn hi0
          generalize hml : out.length = m at *
          have HML : Hid _ := hml
          clear hml
          go_wp2
          go_ret2
          exact ⟨hb, .inl ⟨out, y, yc, HPN.out, by rw [HML.out]; rfl, by rw [HML.out]; exact hyc, by show At _ _ _ _; rw [HML.out]; exact HYS.out⟩⟩
end Go.Proofs.YthioomihpfmlmaaDoor
