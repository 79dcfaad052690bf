import Derived.Test.YtfphffbclpmobaaL5
import Derived.Test.YtfphffbclpmobaaF2
/- What the laws do with rows of files: mark and hold. -/
namespace Go.Proofs.Ytfphffbclpmobaa
open Go.ChangeShapes Go.WideShapes Go.ChangeAt Go.RowKit
set_option linter.unusedVariables false
open Hd

attribute [local go_sem] Oper.semAt_some

/-- The mark ahead of a file. -/
def kAt (L : List (List Int)) (k i : Nat) : Nat := k + kk L i
/-- Marked files: the first so many, and all. -/
def mkQ (k : Nat) (L : List (List Int)) (q : Nat) : List (List Int) := (List.range L.length).map fun i => if i < q then mkl (kAt L k i) (gf L i).length else gf L i
def mkT (k : Nat) (L : List (List Int)) : List (List Int) := mkQ k L L.length
theorem mkQ_len (k : Nat) (L : List (List Int)) (q : Nat) : (mkQ k L q).length = L.length := by simp [mkQ]
theorem mkQ_at {k : Nat} {L : List (List Int)} {q i : Nat} (h : i < L.length) : gf (mkQ k L q) i = if i < q then mkl (kAt L k i) (gf L i).length else gf L i := by simp [mkQ, gf, h]
theorem gf_eq' {L : List (List Int)} {i : Nat} (h : i < L.length) : gf L i = L[i] := by simp [gf, h]
theorem mkQ_zero (k : Nat) (L : List (List Int)) : mkQ k L 0 = L := by
  apply List.ext_getElem
  · rw [mkQ_len]
  · intro i h1 h2
    have := mkQ_at (k := k) (q := 0) h2
    rw [gf_eq' h1, gf_eq' h2] at this
    simpa using this
theorem mkQ_ns {k : Nat} {L : List (List Int)} {q i : Nat} (h : i < L.length) : (gf (mkQ k L q) i).length = (gf L i).length := by
  rw [mkQ_at h]
  split <;> simp [mkl_len]
theorem nil_lenI {l : List Int} : l ≠ [] ↔ l.length ≠ 0 := by cases l <;> simp
theorem DstF.q {b : Nat} {kb : Nat → Nat} {L : List (List Int)} {k q : Nat} (h : DstF b kb L) : DstF b kb (mkQ k L q) := by
  have key : ∀ r, r < L.length → gf (mkQ k L q) r ≠ [] → gf L r ≠ [] := by
    intro r hr hne
    rw [nil_lenI] at hne ⊢
    rwa [mkQ_ns hr] at hne
  intro r hr hne
  rw [mkQ_len] at hr
  obtain ⟨h1, h3⟩ := h r hr (key r hr hne)
  exact ⟨h1, fun r' hr' hne' => h3 r' hr' (key r' (by omega) hne')⟩
/-- What marking a row keeps. -/
theorem markI_keeps {l : List Int} {g : Nat} {w w' : World} (h : if l = [] then w' = w else Out g (g + 1) w w') : w.heap.size ≤ w'.heap.size ∧ ∀ j, j < w.heap.size → (l ≠ [] → j ≠ g) → w'.heap[j]? = w.heap[j]? := by
  by_cases hz : l = []
  · rw [if_pos hz] at h; subst h; exact ⟨Nat.le_refl _, fun _ _ _ => rfl⟩
  · rw [if_neg hz] at h; exact ⟨h.size, fun j hj hne => h.block j hj (by have := hne hz; omega)⟩
theorem markI_out {l : List Int} {g B C : Nat} {w w' : World} (h : if l = [] then w' = w else Out g (g + 1) w w') (hg : l ≠ [] → B ≤ g ∧ g < C) : Out B C w w' := by
  by_cases hz : l = []
  · rw [if_pos hz] at h; subst h; exact Out.refl _ _ _
  · rw [if_neg hz] at h; obtain ⟨h1, h2⟩ := hg hz; exact h.mono h1 h2
theorem IB.within {w : World} {B C : Nat} {v : Value} {l : List Int} {g : Nat} (h : IB w B C v l g) : l ≠ [] → B ≤ g ∧ g < C := by
  obtain ⟨a, c, e, hc, hr⟩ := h
  exact fun hn => by obtain ⟨-, r2, r3, -⟩ := hr hn; exact ⟨r2, r3⟩
/-- Two rows that are not empty lie apart. -/
theorem DstF.ne {b : Nat} {kb : Nat → Nat} {L : List (List Int)} (h : DstF b kb L) {r r' : Nat} (hr : r < L.length) (hr' : r' < L.length) (hne : r ≠ r') (h1 : gf L r ≠ []) (h2 : gf L r' ≠ []) : kb r ≠ kb r' := by
  by_cases hlt : r < r'
  · exact (h r' hr' h2).2 r hlt h1
  · exact fun e => (h r hr h1).2 r' (by omega) h2 e.symm
set_option maxHeartbeats 4000000 in
theorem markFileS_any (B C : Nat) (a : Option Addr) (cap : Nat) (L : List (List Int)) (k : Nat) (w : World) (hn : L.length ≤ 100000000) (hk : k + kk L L.length ≤ 100000000) (h : FOwn w B C a L) :
    Calls Try.prog 25 #[.slice a L.length cap, .int .i64 k] w fun e w' => e = .returned (.int .i64 ((k + kk L L.length : Nat) : Int)) ∧ Out B C w w' ∧ FOwn w' B C a (mkT k L) := by
  by_cases hz : L = []
  · subst hz
    simp only [List.length_nil, kk]
    go_enter Try.func25, Try.ntmps25
    go_wp2
    refine wp_loop_rounds 1 ?_
    rw [rounds_succ]
    go_wp2
    go_ret
    exact ⟨rfl, Out.refl _ _ _, fun h => absurd (by simp [mkT, mkQ]) h⟩
  · obtain ⟨b, c0, kb, hb1, hb2, rfl, hB0, hsz, hnd, hD⟩ := h hz
    have HB0 : Hid (w.heap[b]? = some (.cells c0 44 (0, 0))) := hB0
    have HND : Hid (FiIn w B C c0 kb L L.length) := hnd
    have HD : Hid (DstF b kb L) := hD
    clear hB0 hnd hD h hz
    go_enter Try.func25, Try.ntmps25
    go_wp2
    go_loopw [1, 5] (fun kk i wr => ∃ (q : Nat), q ≤ L.length ∧ kk = .int .i64 ((kAt L k q : Nat) : Int) ∧ i = .int .i64 q ∧ Hid (wr.heap[b]? = some (.cells c0 44 (0, 0))) ∧ Hid (FiIn wr B C c0 kb (mkQ k L q) L.length) ∧ Out B C w wr) (fun _ i _ => L.length - (intOf i).toNat)
    case atStart => exact ⟨0, Nat.zero_le _, by simp [kAt, kk], rfl, HB0, by rw [mkQ_zero]; exact HND, Out.refl _ _ _⟩
    case round =>
      obtain ⟨q, hq, rfl, rfl, hB, hst, ho⟩ := hrel
      by_cases hlt : q < L.length
      · obtain ⟨v1, n1, m1⟩ := hst.out q hlt
        rw [mkQ_at hlt, if_neg (Nat.lt_irrefl _)] at m1
        have hbk1 : kk L (q + 1) = kk L q + (gf L q).length := rfl
        have hmono := kk_mono hlt
        have hka : kAt L k q = k + kk L q := rfl
        have hkb : kAt L k (q + 1) = kAt L k q + (gf L q).length := by unfold kAt; omega
        have hK : Hid (kAt L k q + (gf L q).length ≤ 100000000) := by show _ ≤ _; unfold kAt; omega
        have hne1 : Hid (gf L q ≠ [] → kb q ≠ b) := fun h => (HD.out q hlt h).1
        have hoth : Hid (∀ i, i < L.length → i ≠ q → gf L i ≠ [] → kb i ≠ b ∧ (gf L q ≠ [] → kb i ≠ kb q)) := fun i hi hiq h => ⟨(HD.out i hi h).1, fun h' => HD.out.ne hi hlt hiq h h'⟩
        have hmq : Hid (gf (mkQ k L (q + 1)) q = mkl (kAt L k q) (gf L q).length) := by show _ = _; rw [mkQ_at hlt, if_pos (by omega)]
        obtain ⟨ka, kc, rfl, -, -⟩ := id m1
        obtain ⟨ns, hnd⟩ : ∃ nd, gf L q = nd := ⟨_, rfl⟩
        rw [hnd] at n1 m1 hkb hK hne1 hoth hmq
        have Hkb : Hid _ := hkb
        clear hnd hbk1 hmono hkb hka
        obtain ⟨Q, hQ⟩ : ∃ Q, kAt L k q = Q := ⟨_, rfl⟩
        rw [hQ] at Hkb hK hmq ⊢
        clear hQ
        have g0 : wr.cell? ⟨b, q, none⟩ = some (.slice ka ns.length kc) := cell_of_block hB.out n1
        have cM1 := fun W h => markIntS_any B C (kb q) ka kc ns Q W (by have := hK.out; omega) h
        generalize hK2 : ((Q + ns.length : Nat) : Int) = K2 at cM1
        have HK2 : Hid _ := hK2
        clear hK2
        have hbl : b < wr.heap.size := box_lt hB.out
        go_wp2_with fail
        refine (cM1 _ m1).mono ?_
        rintro e w2 ⟨rfl, hm1, i1⟩
        obtain ⟨z2, kp2⟩ := markI_keeps hm1
        have oo2 : Out B C wr w2 := markI_out hm1 m1.within
        have HB2 : Hid (w2.heap[b]? = some (.cells c0 44 (0, 0))) := by show _ = _; rw [kp2 b hbl (fun h e => hne1.out h e.symm)]; exact hB.out
        have I1 : Hid (IB w2 B C (.slice ka ns.length kc) (mkl Q ns.length) (kb q)) := i1
        clear cM1 hm1 i1 m1 g0
        go_wp2_with fail
        go_roundw
        case rel =>
          refine ⟨q + 1, by omega, by rw [Hkb.out, HK2.out], by go_num, HB2, ?_, ho.trans oo2⟩
          intro i hi
          by_cases e : i = q
          · subst e
            rw [hmq.out]
            exact ⟨_, n1, I1.out⟩
          · have heq : gf (mkQ k L (q + 1)) i = gf (mkQ k L q) i := by
              rw [mkQ_at hi, mkQ_at hi]
              by_cases h1 : i < q
              · rw [if_pos h1, if_pos (by omega)]
              · rw [if_neg h1, if_neg (by omega)]
            rw [heq]
            obtain ⟨v, p1, p3⟩ := hst.out i hi
            have hl := mkQ_ns (k := k) (q := q) hi
            refine ⟨v, p1, p3.same (fun h hl' => ?_)⟩
            have ot := hoth.out i hi e (by rw [nil_lenI] at h ⊢; omega)
            exact kp2 _ hl' (fun h' => ot.2 h')
        case measure => simp [intOf]; omega
      · have hqn : q = L.length := by omega
        go_wp2
        go_ret
        refine ⟨by rw [hqn]; simp [kAt], ho, fun _ => ⟨b, c0, kb, hb1, hb2, rfl, hB.out, by rw [show (mkT k L).length = L.length from mkQ_len _ _ _]; exact hsz, ?_, HD.out.q⟩⟩
        have := hst.out
        rw [hqn] at this
        rw [show (mkT k L).length = L.length from mkQ_len _ _ _]
        exact this
set_option maxHeartbeats 4000000 in
theorem heldFileS_any (a : Option Addr) (cap : Nat) (L : List (List Int)) (k : Nat) (w : World) (hn : L.length ≤ 100000000) (hk : k + kk L L.length ≤ 100000000) (h : Fis w a (mkT k L)) :
    Calls Try.prog 27 #[.slice a L.length cap, .int .i64 k] w fun e w' => e = .returned (.int .i64 ((k + kk L L.length : Nat) : Int)) ∧ Below w.heap.size w w' := by
  unfold Fis at h
  rw [show (mkT k L).length = L.length from mkQ_len _ _ _] at h
  have Hc : Hid _ := h
  clear h
  go_enter Try.func27, Try.ntmps27
  go_wp2
  go_loopw [1, 5] (fun kq i wr => ∃ (q : Nat), q ≤ L.length ∧ kq = .int .i64 ((kAt L k q : Nat) : Int) ∧ i = .int .i64 q ∧ Below w.heap.size w wr) (fun _ i _ => L.length - (intOf i).toNat)
  case atStart => exact ⟨0, Nat.zero_le _, by simp [kAt, kk], rfl, Below.refl _ _⟩
  case round =>
    obtain ⟨q, hq, rfl, rfl, hb⟩ := hrel
    by_cases hlt : q < L.length
    · obtain ⟨b, off, rfl, hcell⟩ := Hc.out (by omega)
      have hnd0 := (hcell q hlt).below hb
      have hbk1 : kk L (q + 1) = kk L q + (gf L q).length := rfl
      have hmono := kk_mono hlt
      have hka : kAt L k q = k + kk L q := rfl
      have hkb : kAt L k (q + 1) = kAt L k q + (gf L q).length := by unfold kAt; omega
      have hK : kAt L k q + (gf L q).length ≤ 100000000 := by unfold kAt; omega
      rw [show gf (mkT k L) q = mkl (kAt L k q) (gf L q).length by unfold mkT; rw [mkQ_at hlt, if_pos hlt]] at hnd0
      obtain ⟨ns, hnd⟩ : ∃ nd, gf L q = nd := ⟨_, rfl⟩
      rw [hnd] at hnd0 hkb hK
      have Hkb : Hid _ := hkb
      clear hnd hbk1 hmono hkb hka hcell Hc
      obtain ⟨ka, kc, g1, i1, -⟩ := hnd0
      simp only [mkl_len] at g1
      obtain ⟨Q, hQ⟩ : ∃ Q, kAt L k q = Q := ⟨_, rfl⟩
      rw [hQ] at Hkb hK i1 ⊢
      clear hQ
      have cM1 := fun W h => heldIntS_any ka kc ns.length Q W (by omega) h
      have Hi1 : Hid (Ints wr ka (mkl Q ns.length)) := i1
      clear i1
      have hK20 : 0 ≤ ((Q + ns.length : Nat) : Int) := by omega
      generalize hK2 : ((Q + ns.length : Nat) : Int) = K2 at cM1 hK20
      have HK2 : Hid _ := hK2
      have HK : Hid _ := hK
      clear hK2 hK
      have n2 : decide (K2 < 0) = false := by simp; omega
      go_wp2_with fail
      refine (cM1 _ Hi1.out).mono ?_
      rintro e w2' ⟨rfl, hw⟩
      have hw' := hw.symm
      subst hw'
      clear hw
      go_wp2_with fail
      go_roundw
      case rel => exact ⟨q + 1, by omega, by rw [Hkb.out, HK2.out], by go_num, hb⟩
      case measure => simp [intOf]; omega
    · have hqn : q = L.length := by omega
      go_wp2
      go_ret
      exact ⟨by rw [hqn]; simp [kAt], hb⟩
end Go.Proofs.Ytfphffbclpmobaa
