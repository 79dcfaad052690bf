import Derived.Test.YtggkpcgjmanelaaE1
/- The program: keys of a fork gone through. -/
namespace Go.Proofs.Ytggkpcgjmanelaa
open Go.ChangeShapes Go.WideShapes Go.ChangeAt Go.RowKit Go.Shelf
set_option linter.unusedVariables false
open Bt

attribute [local go_sem] Oper.semAt_some

theorem flatK_pre (cs : List Tr) (ks : List Int) (k : Nat) : flatK (cs.take k) ks <+: flatK cs ks := by
  conv => rhs; rw [← List.take_append_drop k cs, flatK_append]
  exact List.prefix_append _ _

set_option maxRecDepth 100000 in
set_option maxHeartbeats 8000000 in
theorem each_in (l : Nat) (w0 : World) (J Jx : List Int → World → Prop) (N : Nat) (hJ : ∀ s W o, J s W → J s (W.alloc o))
    (hY : ∀ m pre x W1, J pre W1 → pre.length < N → YieldAt Fence.wide m Try.prog l #[iv x] W1 fun e W' => (e = .returned (.bool true) ∧ J (pre ++ [x]) W' ∧ Kc w0.heap.size W1 W') ∨ (e = .returned (.bool false) ∧ Jx (pre ++ [x]) W')) (hNN : N ≤ 100000000) (d : Nat) :
    ∀ (v : Value) (t : Tr) (pre : List Int) (W : World) (m : Nat), IN w0 d v t → Wf t → Below w0.heap.size w0 W → J pre W → pre.length + (flat t).length ≤ N →
    CallsIn Fence.wide m Try.prog 83 #[v, .func (.yield l) #[] #[]] W (EachA w0.heap.size W J Jx pre (flat t)) := by
  induction d with
  | zero => intro v t pre W m h; exact absurd h (by simp [IN])
  | succ d ih =>
    intro v t pre W m hs hwf hW hJ0 hN
    obtain ⟨a, c, h1, h2, h3⟩ := hs
    obtain ⟨ks, cs⟩ := t
    simp only at h1 h2 h3
    rcases h3 with ⟨rfl, rfl⟩ | ⟨h3, c', b, off, rfl, h5, h6⟩
    · have e : flat ⟨ks, []⟩ = ks := by rw [flat_eq]; rfl
      rw [e] at hN ⊢
      exact each_leaf l w0 J Jx N hJ hY a ks c pre W m h2 hW hJ0 hN (by omega)
    · have hz0 : cs.isEmpty = false := by cases cs <;> simp_all
      have hfe : flat ⟨ks, cs⟩ = flatK cs ks := by rw [flat_eq, hz0]; rfl
      rw [hfe] at hN ⊢
      rw [Wf_eq] at hwf
      have hcl : cs.length = ks.length + 1 := by rcases hwf.1 with h | h; exact absurd h h3; exact h
      have hkl : ks.length ≤ 100000000 := by have := flatK_len (cs := cs) (ks := ks) (by omega); omega
      have hcb : cs.length ≤ 100000001 := by omega
      have Hwf : Hid _ := hwf.2
      have Hcl : Hid _ := hcl
      have H6 : Hid _ := h6
      have H2 : Hid _ := h2
      clear hwf hcl h6 h2 hz0
      refine callsIn_of_wp Try.func83 rfl trivial ?_ rfl
      simp only [Try.ntmps83, List.size_toArray, List.length_cons, List.length_nil, Nat.reduceAdd, Nat.reduceSub, Array.replicate_succ, Array.replicate_zero, List.push_toArray, List.append_toArray, List.nil_append, List.cons_append]
      obtain ⟨W0, hW0⟩ : ∃ W0, W.alloc (.cells #[.slice a ks.length c, .slice (some ⟨b, off, none⟩) cs.length c'] 101) = W0 := ⟨_, rfl⟩
      have hJ1 : J pre W0 := by rw [← hW0]; exact hJ _ _ _ hJ0
      have hK1 : Kc w0.heap.size W W0 := by rw [← hW0]; exact (Kc.refl _ _).alloc hW.size _
      have HB : Hid (W0.heap[W.heap.size]? = some (.cells #[.slice a ks.length c, .slice (some ⟨b, off, none⟩) cs.length c'] 101 (0, 0))) := by rw [← hW0]; exact al1 _ _
      obtain ⟨x0, x1, -, -⟩ := box2_cells HB.out
      gi_wp2
      clear x0 x1 hW0 hJ0
      gi_loopw [33] (fun i wr => ∃ k : Nat, k ≤ cs.length ∧ i = .int .i64 k ∧ J (pre ++ flatK (cs.take k) ks) wr ∧ Kc w0.heap.size W0 wr) (fun i _ => cs.length - (intOf i).toNat)
      case atStart => exact ⟨0, Nat.zero_le _, rfl, by simpa [flatK_nil] using hJ1, Kc.refl _ _⟩
      case round =>
        obtain ⟨k, hk', rfl, hJs, hb⟩ := hrel
        by_cases hlt : k < cs.length
        · obtain ⟨p, k0, k2⟩ := H6.out k hlt
          have hWr : Below w0.heap.size w0 wr := (hW.trans hK1.1).trans hb.1
          have k0' := cell_on k0 hWr
          obtain ⟨T, u, rfl⟩ := k2.form
          have hsnoc := flatK_snoc (cs.take k) (gt cs k) ks
          rw [← take_succ' hlt, List.length_take, Nat.min_eq_left hk'] at hsnoc
          have hlen := (flatK_pre cs ks (k + 1)).length_le
          have hpre := flatK_pre cs ks (k + 1)
          rw [hsnoc] at hlen hpre
          simp only [List.length_append] at hlen
          have cI := fun m' => ih _ _ (pre ++ flatK (cs.take k) ks) wr m' k2 (Hwf.out _ (gt_mem hlt)) hWr hJs (by simp; omega)
          have Hsn : Hid _ := hsnoc
          have Hpre : Hid _ := hpre
          have hl1 : (flatK (cs.take k) ks).length + ((flat (gt cs k)).length + ((ks.drop k).take 1).length) ≤ (flatK cs ks).length := hlen
          clear k0 k2 hsnoc hpre hlen ih
          generalize gt cs k = x at *
          generalize flatK (cs.take k) ks = acc at *
          have hlt' : (k : Int) < (cs.length : Int) := by omega
          by_cases hkk : k < ks.length
          · obtain ⟨kb, ko, rfl, hkc⟩ := H2.out (by omega)
            have kc : w0.cell? ⟨kb, ko + k, none⟩ = some (iv (gi ks k)) := hkc k hkk
            have hdt := drop_take1 hkk
            have HD : Hid _ := hdt
            rw [hdt] at hl1
            simp only [List.length_cons, List.length_nil] at hl1
            clear hkc hdt
            obtain ⟨K, hK⟩ : ∃ K, gi ks k = K := ⟨_, rfl⟩
            rw [hK] at kc
            have HK : Hid _ := hK
            clear hK
            have hkk' : (k : Int) < (ks.length : Int) := by omega
            gi_wp2_with fail
            refine ⟨trivial, fun h => absurd h (by simp [Fence.wide]), (cI _).mono ?_⟩
            rintro e w1 (⟨rfl, hJ2, hk1⟩ | ⟨rfl, q, hq, hx⟩)
            · have hB1 := (hb.trans hk1).2 _ _ _ HB.out
              obtain ⟨x0, x1, -, -⟩ := box2_cells hB1
              have kc1 := cell_on kc (hWr.trans hk1.1)
              obtain ⟨fn, tmps, assign, body, hy, hR⟩ := hY 0 _ K w1 hJ2 (by simp; omega)
              have hR' : ∀ m', RoundIn Fence.wide m' Try.prog l fn tmps assign body w1 _ := fun m' => ⟨hR.1, fun c cs _ => hR.2 c cs (room_wide _)⟩
              have Hb1 : Hid _ := hB1
              clear hY hR hB1
              gi_wp2_with fail
              refine ⟨fun h => absurd h (by simp [Fence.wide]), (hR' _).mono ?_⟩
              rintro e W3 (⟨rfl, hJ3, hk3⟩ | ⟨rfl, hJx3⟩)
              · gi_wp2_with fail
                go_roundw
                case rel => exact ⟨k + 1, by omega, by go_num, by rw [Hsn.out, HD.out, HK.out]; simpa [List.append_assoc] using hJ3, (hb.trans hk1).trans hk3⟩
                case measure => simp [intOf]; omega
              · gi_wp2_with fail
                go_ret
                refine .inr ⟨rfl, acc ++ (flat x ++ [K]), ?_, by simpa [List.append_assoc] using hJx3⟩
                have := Hpre.out
                rw [HD.out, HK.out] at this
                exact this
            · have hq2 : acc ++ q <+: flatK cs ks := by
                have h1 := Hpre.out
                rw [← List.append_assoc] at h1
                exact ((List.prefix_append_right_inj acc).2 hq).trans ((List.prefix_append _ _).trans h1)
              have hx2 : Jx (pre ++ (acc ++ q)) w1 := by simpa [List.append_assoc] using hx
              gi_wp2_with (refine ⟨fun f h => absurd h (by simp), ?_⟩)
              all_goals first
                | (exact absurd ‹some undef = some (Value.bool _)› (by simp [undef]))
                | (go_ret; exact .inr ⟨rfl, acc ++ q, hq2, hx2⟩)
          · have hkk' : decide ((k : Int) < (ks.length : Int)) = false := decide_eq_false (by omega)
            have hkk2 : ¬ (k : Int) < (ks.length : Int) := by omega
            gi_wp2_with fail
            refine ⟨trivial, fun h => absurd h (by simp [Fence.wide]), (cI _).mono ?_⟩
            rintro e w1 (⟨rfl, hJ2, hk1⟩ | ⟨rfl, q, hq, hx⟩)
            · have hB1 := (hb.trans hk1).2 _ _ _ HB.out
              obtain ⟨x0, x1, -, -⟩ := box2_cells hB1
              clear hB1
              gi_wp2_with (refine ⟨fun f h => absurd h (by simp), ?_⟩)
              go_roundw
              case rel => exact ⟨k + 1, by omega, by go_num, by rw [Hsn.out, List.drop_of_length_le (by omega)]; simpa [List.append_assoc] using hJ2, hb.trans hk1⟩
              case measure => simp [intOf]; omega
            · have hq2 : acc ++ q <+: flatK cs ks := by
                have h1 := Hpre.out
                rw [← List.append_assoc] at h1
                exact ((List.prefix_append_right_inj acc).2 hq).trans ((List.prefix_append _ _).trans h1)
              have hx2 : Jx (pre ++ (acc ++ q)) w1 := by simpa [List.append_assoc] using hx
              gi_wp2_with (refine ⟨fun f h => absurd h (by simp), ?_⟩)
              all_goals first
                | (exact absurd ‹some undef = some (Value.bool _)› (by simp [undef]))
                | (go_ret; exact .inr ⟨rfl, acc ++ q, hq2, hx2⟩)
        · have hkn : k = cs.length := by omega
          have hlt' : ¬ (k : Int) < (cs.length : Int) := by omega
          gi_wp2
          go_ret
          rw [hkn, List.take_length] at hJs
          exact .inl ⟨rfl, hJs, hK1.trans hb⟩
end Go.Proofs.Ytggkpcgjmanelaa
