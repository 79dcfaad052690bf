import Derived.Test.YtgapplfnlndckaaM2
import Derived.Test.YtgapplfnlndckaaS1
/- impl.blockKinds.of: the blocks of a kind, by place. -/
namespace Go.Proofs.Ytgapplfnlndckaa
open Go.ChangeShapes Go.WideShapes Go.ChangeAt Go.RowKit Go.Maps
set_option linter.unusedVariables false
open Room

attribute [local go_sem] Oper.semAt_some

theorem same_kl {x y : Ex} (hx : FitX x) (hy : FitX y) : (kl x).sameKey (kl y) = decide (x = y) := by
  by_cases e : x = y
  · subst e
    rw [WideAt.sameKey_self (lawB.key (key_of hx))]
    simp
  · rw [sameKey_ne (fun q => e (kl_inj hx hy q))]
    simp [e]
/-- What has been met of a kind. -/
structure Got (g : Ex → Int) (kind : Int) (left : Lit → Bool) (L : List Ex) : Prop where
  fit : ∀ x, x ∈ L → FitX x
  mem : ∀ x, FitX x → (x ∈ L ↔ g x = kind ∧ left (kl x) = false)
  nodup : L.Nodup
theorem Got.skip {g : Ex → Int} {kind : Int} {left : Lit → Bool} {L : List Ex} (h : Got g kind left L) {x : Ex} (hx : FitX x) (hg : g x ≠ kind) : Got g kind (fun z => left z && !z.sameKey (kl x)) L :=
  ⟨h.fit, fun y hy => by
    rw [h.mem y hy, same_kl hy hx]
    by_cases e : y = x
    · subst e
      simp [hg]
    · simp [e], h.nodup⟩
theorem Got.take {g : Ex → Int} {kind : Int} {left : Lit → Bool} {L : List Ex} (h : Got g kind left L) {x : Ex} (hx : FitX x) (hg : g x = kind) (hl : left (kl x) = true) : Got g kind (fun z => left z && !z.sameKey (kl x)) (L ++ [x]) :=
  ⟨fun y hy => by
    rcases List.mem_append.1 hy with hy | hy
    · exact h.fit y hy
    · rw [List.mem_singleton] at hy; subst hy; exact hx, fun y hy => by
    rw [List.mem_append, List.mem_singleton, h.mem y hy, same_kl hy hx]
    by_cases e : y = x
    · subst e
      simp [hg]
    · simp [e], by
    rw [List.nodup_append]
    refine ⟨h.nodup, by simp, fun a ha b hb e => ?_⟩
    rw [List.mem_singleton] at hb
    subst hb e
    have := ((h.mem _ hx).1 ha).2
    rw [hl] at this
    cases this⟩

theorem so_ne {m L : List Ex} (hso : So ltP m) (hm : ∀ x, x ∈ L → x ∈ m) (hn : L.Nodup) : L.Pairwise fun x y => x.1 ≠ y.1 := by
  refine List.Pairwise.imp_of_mem (fun {x y} hx hy hxy => ?_) hn
  intro e
  have h1 := hm x hx
  have h2 := hm y hy
  apply hxy
  clear hn hm hx hy hxy
  induction m with
  | nil => simp at h1
  | cons z m ih =>
    rw [So.cons] at hso
    rcases List.mem_cons.1 h1 with e1 | q1
    · rcases List.mem_cons.1 h2 with e2 | q2
      · rw [e1, e2]
      · have := hso.1 y q2
        rw [ltP_iff, ← e1] at this
        omega
    · rcases List.mem_cons.1 h2 with e2 | q2
      · have := hso.1 x q1
        rw [ltP_iff, ← e2] at this
        omega
      · exact ih hso.2 q1 q2

set_option maxHeartbeats 4000000 in
theorem of_any (M n : Nat) (g : Ex → Int) (kind : Int) (m : List Ex) (w : World) (hn : n ≤ 1000) (km : KM w M n g) (hk0 : kind ≠ 0) (hso : So ltP m) (hm : ∀ x, x ∈ m ↔ FitX x ∧ g x = kind) :
    Calls Try.prog 55 #[.map (some M), .int .i64 kind] w fun e w' => ∃ a c, e = .returned (.slice a m.length c) ∧ Own w' w.heap.size w'.heap.size a m ∧ Below w.heap.size w w' := by
  obtain ⟨D, hown, hk⟩ := km
  have HK : Hid (∀ x, FitX x → D.atKey (kl x) (.lit (.int .i64 0)) = .lit (.int .i64 (g x)) ∧ has D (kl x) = decide (g x ≠ 0)) := hk
  have hM := hown.lt
  have hsz := hown.size_le
  obtain ⟨r, hr⟩ : ∃ r, w.heap.size = r := ⟨_, rfl⟩
  have HM : Hid (∀ x, x ∈ m ↔ FitX x ∧ g x = kind) := hm
  clear hk hm
  go_enter Try.func55, Try.ntmps55
  go_wp2_with (at_range; refine wpList_range_own _ rfl _ 67 rfl 43 3 lawB Try.underlying67 _ M n D rfl hown ?_; intro w0 hrg0 hg0 hs0)
  go_frame
  rw [hr] at hrg0 hs0 ⊢
  have hb0 : Below r w w0 := hr ▸ (Below.refl w.heap.size w).grown hg0 (Nat.le_refl _) (fun j hj => by cases hj)
  go_loopw [5] (fun l wr => ∃ (left : Lit → Bool) (cnt : Nat) (L : List Ex) (a : Option Addr) (c : Nat), l = .slice a L.length c ∧ Hid (OwnR wr (r + 1) (.slice a L.length c) L) ∧ Hid (wr.ranges Try.prog 43 (plainElem (H := Unit) Try.prog 3) M r n D left cnt) ∧ Hid (Got g kind left L) ∧ L.length + cnt ≤ n ∧ r + 1 ≤ wr.heap.size ∧ Below r w wr) (fun _ wr => wr.rangeLeft M r)
  case atStart =>
    refine ⟨_, _, [], none, 0, rfl, OwnR.nil _ _, hrg0, ⟨by simp, fun x hx => ?_, by simp⟩, by simpa using hsz, by omega, hb0⟩
    constructor
    · intro h; simp at h
    · rintro ⟨h1, h2⟩
      rw [(HK.out x hx).2] at h2
      simp at h2
      exact absurd (h2 ▸ h1) (Ne.symm hk0)
  case round =>
    obtain ⟨left, cnt, L, a, c, rfl, HO, HR, HG, hlc, hz, hb⟩ := hrel
    have hrg := HR.out
    clear hrg0 hg0 hs0 hb0
    go_wp2_with (at_next; refine wpList_next_ranges _ rfl _ rfl 43 lawB _ xv (Value.int .i64) (fun key kl h => key_inv h) (fun v y hv => by obtain ⟨c, rfl, _⟩ := plainElem_int_inv Try.underlying3 hv; exact ⟨c, rfl⟩) M r n D left cnt rfl hrg ?_ ?_)
    · intro hc0 hl0
      have hmm : ∀ x, x ∈ L ↔ x ∈ m := fun x => by
        rw [HM.out x]
        constructor
        · intro h
          have hf := HG.out.fit x h
          exact ⟨hf, ((HG.out.mem x hf).1 h).1⟩
        · intro h
          exact (HG.out.mem x h.1).2 ⟨h.2, hl0 _⟩
      have hd := so_ne hso (fun x hx => (hmm x).1 hx) HG.out.nodup
      obtain ⟨o1, -, o3⟩ := HO.out.own
      by_cases hL : L = []
      · have hme : m = [] := by
          cases m with
          | nil => rfl
          | cons z m => exact absurd ((hmm z).2 (by simp)) (by simp [hL])
        subst hL hme
        have c59 := fun W => AnyF.slices_SortFunc_none Try.sortL a c (.func (.func 60) #[] #[]) W
        go_wp2_with (go_at_call 59; refine (c59 _).mono ?_; rintro e w1 ⟨rfl, rfl⟩)
        go_ret
        exact ⟨a, c, rfl, .inl rfl, by first | exact hb | exact hr ▸ hb⟩
      · rcases o1 with h0 | ⟨blk, cs, h1, h2, rfl, hB, hx⟩
        · exact absurd (List.eq_nil_of_length_eq_zero h0) hL
        have c59 := SortFunc_any blk c L m wr hd hso hmm (by omega) cs hB hx
        have hLn : ¬ L.length = 0 := fun h => hL (List.eq_nil_of_length_eq_zero h)
        go_wp2_with (go_at_call 59; refine c59.mono ?_; rintro e w1 ⟨rfl, o1, ⟨c', hB', hx'⟩, hml⟩)
        go_ret
        have hb1 : Below r w w1 := hb.trans ((o1.below (by omega)).mono (by omega))
        refine ⟨_, c, by rw [hml]; rfl, .inr ⟨blk, c', by omega, box_lt hB', rfl, hB', hx'⟩, by first | exact hb1 | exact hr ▸ hb1⟩
    · intro p q v kl' yd yp w1 cnt1 hkey hlx hv hat hrg1 hlt hg1 hs1 hen
      obtain ⟨x, hxe⟩ : ∃ x : Ex, (p, q) = x := ⟨_, rfl⟩
      rw [hxe] at hkey
      have hfx := fit_of_key hkey
      obtain rfl : kl' = kl x := by rw [key_of hfx] at hkey; exact (Option.some.inj hkey).symm
      have hgx : v = g x := by
        obtain ⟨a', e1, e3, _⟩ := plainElem_int_inv Try.underlying3 hv
        simp at e1 e3
        obtain ⟨rfl, rfl⟩ := e3
        subst e1
        have e2 := (HK.out x hfx).1
        rw [hat] at e2
        simpa using e2
      have hO1 : OwnR w1 (r + 1) (.slice a L.length c) L := HO.out.kept hg1 (by
        rcases HO.out.2 with ⟨e, -⟩ | ⟨gb, cp, cu, e, hgb, -⟩
        · simp only [Value.slice.injEq] at e
          obtain ⟨rfl, -, -⟩ := e
          exact .inl rfl
        · simp only [Value.slice.injEq] at e
          obtain ⟨rfl, -, -⟩ := e
          refine .inr ?_
          simp [Value.ownBlock]
          omega)
      have hb1 : Below r w w1 := hb.grown hg1 (by omega) (fun j hj => by cases hj; omega)
      have HG' := HG.out
      have hz1 : r + 1 ≤ w1.heap.size := Nat.le_trans hz hg1.size
      have HHL : Hid (left (kl x) = true) := hlx
      have HFX : Hid (FitX x) := hfx
      have HO1 : Hid (OwnR w1 (r + 1) (.slice a L.length c) L) := hO1
      have HRG1 : Hid (w1.ranges Try.prog 43 (plainElem (H := Unit) Try.prog 3) M r n D (fun z => left z && !z.sameKey (kl x)) cnt1) := hrg1
      have hlt1 : cnt1 < cnt := hlt
      clear hkey hv hat hlx hfx hO1 hrg1 HR HO hs1
      by_cases hc : v = kind
      · have hgk : Hid (g x = kind) := by show _ = _; rw [← hgx]; exact hc
        have HX : Hid ((p, q) = x) := hxe
        clear hgx hxe
        subst hc
        obtain ⟨W2, hW2⟩ : ∃ W2, w1.alloc (.cells #[.int .i64 p, .int .i64 q] 43) = W2 := ⟨_, rfl⟩
        have b2 : Below w1.heap.size w1 W2 := by subst hW2; exact below_alloc _ _
        have hE : W2.heap[w1.heap.size]? = some (.cells #[.int .i64 p, .int .i64 q] 43 (0, 0)) := by subst hW2; exact al1 _ _
        obtain ⟨e0, e1, -, -⟩ := box2_cells hE
        have b3 := below_alloc W2 (.cells #[.int .i64 p, .int .i64 q] 43)
        have own2 : OwnR (W2.alloc (.cells #[.int .i64 p, .int .i64 q] 43)) (r + 1) (.slice a L.length c) L := owns_below (owns_below HO1.out b2) b3
        have sr := src_one W2 p q 43
        have z2 : r + 1 ≤ (W2.alloc (.cells #[.int .i64 p, .int .i64 q] 43)).heap.size := by have := b2.size; have := b3.size; omega
        have HR2 : Hid ((W2.alloc (.cells #[.int .i64 p, .int .i64 q] 43)).ranges Try.prog 43 (plainElem (H := Unit) Try.prog 3) M r n D (fun z => left z && !z.sameKey (kl x)) cnt1) := by
          have := World.ranges.alloc (World.ranges.alloc HRG1.out (.cells #[.int .i64 p, .int .i64 q] 43)) (.cells #[.int .i64 p, .int .i64 q] 43)
          rw [hW2] at this
          exact this
        have hb3 : Below r w (W2.alloc (.cells #[.int .i64 p, .int .i64 q] 43)) := hb1.trans ((Below.comp b2 b3).mono (by omega))
        clear hE
        go_wp2_with (at_builtin; refine wpList_append_src rfl _ _ 22 rfl (r + 1) 43 _ 2 16 Try.underlying22 info43 rfl (by decide) (.slice a L.length c) L.length (cxs L) rfl own2 (some ⟨W2.heap.size, 0, none⟩) 1 1 (cxs [(p, q)]) rfl rfl sr (cxs_one _) (by omega) (by decide) z2 ?_; intro v1 w3 own3 gr3; obtain ⟨x1, c1, e1⟩ := owns_form own3; subst e1)
        have hO3 : OwnR w3 (r + 1) (.slice x1 (L ++ [x]).length c1) (L ++ [x]) := by
          rw [← cxs_app, HX.out] at own3
          have hl : (L ++ [x]).length = L.length + 1 := by simp
          unfold OwnR
          rw [hl]
          exact own3
        have hge := owns_ge own2
        have hR3 := World.ranges.kept HR2.out gr3 (fun e => by have := hge M e.symm; omega) (fun e => by have := hge r e.symm; omega)
        have hb4 : Below r w w3 := hb3.grown gr3 (by omega) (fun j hj => by have := hge j hj; omega)
        go_roundw
        case rel => exact ⟨_, cnt1, L ++ [x], x1, c1, by simp, hO3, hR3, HG'.take HFX.out hgk.out HHL.out, by simp; omega, by have := gr3.size; omega, hb4⟩
        case measure => rw [hR3.left_eq, hrg.left_eq]; exact hlt1
      · have hgk : Hid (g x ≠ kind) := by show _ ≠ _; rw [← hgx]; exact hc
        have hcb : (v == kind) = false := by simp [hc]
        clear hgx hxe hc
        go_wp2
        go_roundw
        case rel => exact ⟨_, cnt1, L, a, c, rfl, owns_below HO1.out (below_alloc _ _), World.ranges.alloc HRG1.out _, HG'.skip HFX.out hgk.out, by omega, by simp; omega, hb1.alloc (by have := hb1.size; omega) _⟩
        case measure => rw [(World.ranges.alloc HRG1.out _).left_eq, hrg.left_eq]; exact hlt1
end Go.Proofs.Ytgapplfnlndckaa
