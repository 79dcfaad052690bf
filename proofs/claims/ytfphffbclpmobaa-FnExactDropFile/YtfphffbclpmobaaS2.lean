import Derived.Test.YtfphffbclpmobaaS1
import Derived.Test.YtfphffbclpmobaaY2
/- impl.piecesInOrder: the pieces of a map, in order of place. -/
namespace Go.Proofs.Ytfphffbclpmobaa
open Go.ChangeShapes Go.WideShapes Go.ChangeAt Go.RowKit Go.Maps
set_option linter.unusedVariables false
open Hd

attribute [local go_sem] Oper.semAt_some

theorem nodup_le {α : Type} : ∀ (B L : List α), B.Nodup → (∀ x, x ∈ B → x ∈ L) → B.length ≤ L.length
  | [], _, _, _ => by simp
  | x :: B, L, hn, h => by
    obtain ⟨l1, l2, rfl⟩ := List.append_of_mem (h x (by simp))
    rw [List.nodup_cons] at hn
    have := nodup_le B (l1 ++ l2) hn.2 (fun y hy => by
      have h1 := h y (by simp [hy])
      simp only [List.mem_append, List.mem_cons] at h1 ⊢
      rcases h1 with a | rfl | b
      · exact .inl a
      · exact absurd hy hn.1
      · exact .inr b)
    simp only [List.length_append, List.length_cons] at this ⊢
    omega
/-- What of the entries has been met. -/
def MetE (E : List En) (left : Lit → Bool) (B : List Nm) : Prop := B.Nodup ∧ ∀ x, x ∈ B ↔ ∃ e, e ∈ E ∧ toNm e = x ∧ left (kS e.tx) = false
theorem MetE.snoc {g : SG} {E : List En} (hE : Ens g E) {left : Lit → Bool} {B : List Nm} (h : MetE E left B) {e : En} (he : e ∈ E) (hl : left (kS e.tx) = true) :
    MetE E (fun z => left z && !z.sameKey (kS e.tx)) (B ++ [toNm e]) := by
  obtain ⟨h1, h2⟩ := h
  have hn : toNm e ∉ B := fun hb => by
    obtain ⟨f, hf, hfe, hlf⟩ := (h2 _).1 hb
    have hx : f.tx = e.tx := congrArg Nm.nm hfe
    rw [hx, hl] at hlf
    cases hlf
  refine ⟨?_, fun x => ?_⟩
  · rw [List.nodup_append]
    refine ⟨h1, by simp, fun a ha b hb => ?_⟩
    simp at hb
    subst hb
    exact fun q => hn (q ▸ ha)
  · simp only [List.mem_append, List.mem_singleton, sameKey_S]
    constructor
    · rintro (hx | rfl)
      · obtain ⟨f, hf, hfe, hlf⟩ := (h2 _).1 hx
        exact ⟨f, hf, hfe, by simp [hlf]⟩
      · exact ⟨e, he, rfl, by simp⟩
    · rintro ⟨f, hf, rfl, hlf⟩
      by_cases q : f.tx = e.tx
      · rw [hE.one hf he q]; exact .inr rfl
      · left
        refine (h2 _).2 ⟨f, hf, rfl, ?_⟩
        simpa [q] using hlf
theorem MetE.le {E : List En} {left : Lit → Bool} {B : List Nm} (h : MetE E left B) : B.length ≤ E.length := by
  have := nodup_le B (E.map toNm) h.1 (fun x hx => by
    obtain ⟨e, he, rfl, -⟩ := (h.2 x).1 hx
    exact List.mem_map.2 ⟨e, he, rfl⟩)
  simpa using this
theorem MetE.done {E : List En} {left : Lit → Bool} {B : List Nm} (h : MetE E left B) (hl : ∀ z, left z = false) : B.Nodup ∧ ∀ x, x ∈ B ↔ x ∈ E.map toNm :=
  ⟨h.1, fun x => by
    rw [h.2, List.mem_map]
    exact ⟨fun ⟨e, he, hx, _⟩ => ⟨e, he, hx⟩, fun ⟨e, he, hx⟩ => ⟨e, he, hx, hl _⟩⟩⟩
theorem sortNone_any (a : Option Addr) (cap : Nat) (fv : Value) (w : World) : Calls Try.prog 46 #[.slice a 0 cap, fv] w fun e w' => e = .returned (.tuple #[]) ∧ w' = w :=
  AnyF.slices_SortFunc_none Try.sortL a cap fv w
set_option maxRecDepth 20000 in
set_option maxHeartbeats 4000000 in
theorem inOrder_any (M n N : Nat) (g : SG) (E : List En) (yx : Option Addr) (yk yc : Nat) (w : World) (hG : GM w M n g N) (hE : Ens g E) (hsz : ∀ e, e ∈ E → e.tx.size ≤ 24) (hEn : E.length ≤ 1000) :
    Calls Try.prog 38 #[.agg #[.map (some M), .slice yx yk yc]] w fun e w' => Below w.heap.size w w' ∧ ∃ v gb, e = .returned v ∧ NB w' w.heap.size w'.heap.size v (E.map toNm) gb := by
  obtain ⟨W1, hW1⟩ : ∃ W1, w.alloc (.cells #[.map (some M), .slice yx yk yc] 52) = W1 := ⟨_, rfl⟩
  have q1 : Below w.heap.size w W1 := by subst hW1; exact below_alloc _ _
  have hs1 : W1.heap.size = w.heap.size + 1 := by subst hW1; simp
  have HO : Hid (W1.heap[w.heap.size]? = some (.cells #[.map (some M), .slice yx yk yc] 52 (0, 0))) := by subst hW1; exact al1 _ _
  obtain ⟨o0, o1, -, -⟩ := box2_cells HO.out
  have hMw := hG.lt
  obtain ⟨D, hown, hsize, hk⟩ := hG.below q1
  have HK : Hid (Maps.size D = N ∧ ∀ x : ByteArray, x.size ≤ maxLen → D.atKey (kS x) (sd none) = sd (g x) ∧ has D (kS x) = (g x).isSome) := ⟨hsize, hk⟩
  clear hk hG hsize
  have HE : Hid (Ens g E) := hE
  have HSz : Hid (∀ e, e ∈ E → e.tx.size ≤ 24) := hsz
  have HAll : Hid (∀ e, e ∈ E → has D (kS e.tx) = true) := fun e he => by
    rw [(HK.out.2 _ (by have := hsz e he; unfold maxLen; omega)).2, hE.at_ he]; rfl
  clear hE hsz
  obtain ⟨s, hs⟩ : ∃ s, w.heap.size = s := ⟨_, rfl⟩
  have HS : Hid (w.heap.size = s) := hs
  rw [hs] at hs1 hMw HO o0 o1
  go_enter Try.func38, Try.ntmps38
  go_wp2_with (at_range; refine wpList_range_own _ rfl _ 49 rfl 9 71 lawS Try.underlying49 stE M n D rfl hown ?_; intro w0 hrg0 hg0 hs0)
  go_frame
  rw [hs1] at hrg0 hs0 ⊢
  have hb0 : Below (s + 1) W1 w0 := hs1 ▸ (Below.refl W1.heap.size W1).grown hg0 (Nat.le_refl _) (fun j hj => by cases hj)
  clear o0 o1 hW1 hs
  go_loopw [3] (fun k3 ws => ∃ (left : Lit → Bool) (cnt : Nat) (B : List Nm) (x : Option Addr) (c : Nat), k3 = .slice x B.length c ∧ Hid (MetE E left B) ∧ Hid (OwnN ws (s + 2) (.slice x B.length c) B) ∧ Hid (ws.ranges Try.prog 9 stE M (s + 1) n D left cnt) ∧ Hid (∀ z, left z = true → has D z = true) ∧ Below (s + 1) W1 ws ∧ s + 2 ≤ ws.heap.size) (fun _ ws => ws.rangeLeft M (s + 1))
  case atStart =>
    exact ⟨has D, _, [], none, 0, rfl, ⟨List.nodup_nil, fun x => ⟨fun h => by simp at h, fun ⟨e, he, _, hl⟩ => by rw [HAll.out e he] at hl; cases hl⟩⟩, OwnN.nil _ _, hrg0, fun z h => h, hb0, by omega⟩
  case round =>
    obtain ⟨left, cnt, B, x3, c3, rfl, HM, HB, HR, HL, hb, hz⟩ := hrel
    have hrg := HR.out
    clear hrg0 hg0 hs0 hb0
    have hBl : B.length ≤ 1000 := Nat.le_trans HM.out.le hEn
    go_wp2_with (at_next; refine wpList_next_ranges _ rfl _ rfl 9 lawS stE (fun s : ByteArray => Value.string s) (fun p : Int × Int => Value.agg #[.int .i64 p.1, .int .i64 p.2]) (fun key kl h => by obtain ⟨x, e, -⟩ := key_S_inv h; exact ⟨x, e⟩) (fun v y hv => by obtain ⟨a, b, e, -⟩ := stE_inv hv; exact ⟨(a, b), e⟩) M (s + 1) n D left cnt rfl hrg ?_ ?_)
    · intro hc0 hl0
      have hd := HM.out.done hl0
      have HGM : Hid (GM wr M n g N) := ⟨D, hrg.owns, HK.out.1, HK.out.2⟩
      have HOb : Hid (wr.heap[s]? = some (.cells #[.map (some M), .slice yx yk yc] 52 (0, 0))) := (hb.block s (by omega)).trans HO.out
      have hbw : Below w.heap.size w wr := q1.trans (hb.mono (by have := HS.out; omega))
      by_cases hne : E = []
      · have hB0 : B = [] := by
          have := HM.out.le
          rw [hne] at this
          exact List.eq_nil_of_length_eq_zero (by simpa using this)
        subst hne hB0
        clear hrg HR HB HM hl0 hc0
        go_wp2_with fail
        refine (sortNone_any _ _ _ _).mono ?_
        rintro e w9 ⟨rfl, e9⟩
        subst e9
        go_wp2_with fail
        go_ret
        exact ⟨hbw, _, 0, rfl, x3, c3, rfl, Nat.zero_le _, fun h => absurd rfl h⟩
      · obtain ⟨gb, hgb⟩ := OwnN.nb HB.out
        obtain ⟨a1, c1, e1, hc1, hr⟩ := hgb
        have hBE : B ≠ [] := fun q => by
          subst q
          have := hd.2 (toNm (E.head hne))
          have hm : toNm (E.head hne) ∈ E.map toNm := List.mem_map.2 ⟨_, List.head_mem hne, rfl⟩
          exact absurd (this.2 hm) (by simp)
        obtain ⟨rfl, hg1, hg2, cs, hcs, hnm⟩ := hr hBE
        simp only [Value.slice.injEq, true_and] at e1
        obtain ⟨rfl, rfl⟩ := e1
        have cS := sortK_any gb c3 s M n N g E (.slice yx yk yc) B wr HE.out HSz.out hd.1 hd.2 hne (by omega) cs hcs hnm HOb.out HGM.out (by omega) (by omega)
        have hgs : Hid (s ≤ gb ∧ gb < wr.heap.size) := ⟨by omega, hg2⟩
        have hcc : Hid (B.length ≤ c3) := hc1
        clear hrg HR HB HM hl0 hc0 hcs hnm hr hc1 hd
        go_wp2_with fail
        refine cS.mono ?_
        rintro e w9 ⟨rfl, o9, ⟨c', hc', hn'⟩, hl9⟩
        go_wp2_with fail
        go_ret
        refine ⟨hbw.trans ((o9.below (Nat.le_of_lt hgs.out.2)).mono (by have := HS.out; have := hgs.out; omega)), _, gb, rfl, some ⟨gb, 0, none⟩, c3, by simp, by rw [List.length_map, ← hl9]; exact hcc.out, fun _ => ⟨rfl, by have := HS.out; have := hgs.out; omega, by have := hgs.out; have := o9.size; omega, c', hc', by simpa using hn'⟩⟩
    · intro x p q kl' yd yp w2 cnt1 hkey hlx hv hat hrg1 hlt hg1 hs1' hen
      obtain ⟨x', ex, rfl, hxs⟩ := key_S_inv hkey
      obtain rfl : x = x' := by simpa using ex
      have hhas := HL.out _ hlx
      obtain ⟨hk1, hk2⟩ := HK.out.2 x hxs
      rw [hk2] at hhas
      obtain ⟨e, he, hex⟩ := HE.out.some_ hhas
      subst hex
      rw [hat, HE.out.at_ he] at hk1
      have hyd : yd = DataW.agg [.lit (.int .i64 p), .lit (.int .i64 q)] := by
        obtain ⟨a, b, e1, e2⟩ := stE_inv hv
        simp only [Value.agg.injEq] at e1
        have f1 := congrArg (fun a => a[0]?) e1
        have f2 := congrArg (fun a => a[1]?) e1
        simp at f1 f2
        subst f1 f2
        exact (Prod.mk.inj e2).1
      rw [hyd] at hk1
      simp [sd] at hk1
      have hq : q = e.us := hk1.2
      have HM1 : Hid (MetE E (fun z => left z && !z.sameKey (kS e.tx)) (B ++ [toNm e])) := HM.out.snoc HE.out he hlx
      have HL1 : Hid (∀ z, (left z && !z.sameKey (kS e.tx)) = true → has D z = true) := fun z h => HL.out z (by simp at h; exact h.1)
      have HRG : Hid (w2.ranges Try.prog 9 stE M (s + 1) n D (fun z => left z && !z.sameKey (kS e.tx)) cnt1) := hrg1
      have hbw : Below (s + 1) W1 w2 := hb.grown hg1 (by omega) (fun j hj => by cases hj; omega)
      have hz2 : s + 2 ≤ w2.heap.size := by omega
      have HLt : Hid (cnt1 < cnt) := hlt
      have hB2 : w2.ownsRow (s + 2) 46 2 (.slice x3 B.length c3) B.length (cns B) := HB.out.kept hg1 (.inr fun q => by have := owns_ge HB.out _ q; omega)
      have hTn : Hid (toNm e = ⟨e.tx, e.us⟩) := rfl
      subst hq
      generalize e.tx = tx at *
      generalize e.us = us at *
      clear hkey hv hat hk1 hk2 hyd hlx hhas ex hrg1 HR he hs1' hg1
      obtain ⟨W2, hW2⟩ : ∃ W2, w2.alloc (.cells #[.int .i64 p, .int .i64 us] 71) = W2 := ⟨_, rfl⟩
      obtain ⟨s2, hs2⟩ : ∃ s2, w2.heap.size = s2 := ⟨_, rfl⟩
      obtain ⟨u0, u1, -, -⟩ := box2_cells (show W2.heap[s2]? = some (.cells #[.int .i64 p, .int .i64 us] 71 (0, 0)) by subst hW2 hs2; exact al1 _ _)
      have b2 : Below w2.heap.size w2 W2 := by subst hW2; exact below_alloc _ _
      obtain ⟨W3, hW3⟩ : ∃ W3, W2.alloc (.cells #[.string tx, .int .i64 us] 46) = W3 := ⟨_, rfl⟩
      have b3 : Below W2.heap.size W2 W3 := by subst hW3; exact below_alloc _ _
      have own2 := owns_below (owns_below hB2 b2) b3
      have sr := src_two W2 (.string tx) (.int .i64 us) 46
      rw [hW3] at sr
      have hz3 : s + 2 ≤ W3.heap.size := Nat.le_trans hz2 (Nat.le_trans b2.size b3.size)
      have hb3 : Below (s + 1) W1 W3 := (hbw.trans (b2.mono (by omega))).trans (b3.mono (by have := b2.size; omega))
      have HR3 : Hid (W3.ranges Try.prog 9 stE M (s + 1) n D (fun z => left z && !z.sameKey (kS tx)) cnt1) := by
        have := World.ranges.alloc (World.ranges.alloc HRG.out (.cells #[.int .i64 p, .int .i64 us] 71)) (.cells #[.string tx, .int .i64 us] 46)
        rw [hW2, hW3] at this
        exact this
      have HX : Hid (∀ W y cy, W.ownsRow (s + 2) 46 2 (.slice y (B.length + 1) cy) (B.length + 1) (cns B ++ [.string tx, .int .i64 us]) → Hid (OwnN W (s + 2) (.slice y (B ++ [toNm e]).length cy) (B ++ [toNm e]))) := fun W y cy h => by
        show W.ownsRow (s + 2) 46 2 _ _ _
        rw [List.length_append, List.length_singleton, cns_app, hTn.out]
        exact h
      have HMn : Hid (M < s) := hMw
      clear b2 b3 hB2 hbw
      go_wp2_with (at_builtin; refine wpList_append_src rfl _ _ 27 rfl (s + 2) 46 _ 2 24 Try.underlying27 info47 rfl (by decide) (.slice x3 B.length c3) B.length (cns B) rfl own2 (some ⟨W2.heap.size, 0, none⟩) 1 1 [.string tx, .int .i64 us] rfl rfl sr (by simp [Value.oneCell']) (by omega) (by decide) hz3 ?_; intro v3 w3 own3 gr3; have b4 : Below (s + 1) W1 w3 := hb3.grown gr3 (by omega) (fun k hk => by have := owns_ge own2 k hk; omega); have HR4 : Hid (w3.ranges Try.prog 9 stE M (s + 1) n D (fun z => left z && !z.sameKey (kS tx)) cnt1) := HR3.out.kept gr3 (fun q => by have := owns_ge own2 _ q.symm; have := HMn.out; omega) (fun q => by have := owns_ge own2 _ q.symm; omega); have z4 : s + 2 ≤ w3.heap.size := Nat.le_trans hz3 gr3.size; have OW3 : Hid (w3.ownsRow (s + 2) 46 2 v3 (B.length + 1) (cns B ++ [.string tx, .int .i64 us])) := own3; clear own3 gr3; obtain ⟨y3, c4, hy3⟩ := owns_form OW3.out; subst hy3)
      go_roundw
      case rel => exact ⟨_, cnt1, B ++ [toNm e], y3, c4, by simp, HM1, HX.out _ _ _ OW3.out, HR4, HL1, b4, z4⟩
      case measure => rw [HR4.out.left_eq, hrg.left_eq]; exact HLt.out
end Go.Proofs.Ytfphffbclpmobaa
