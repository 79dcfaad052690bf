import Derived.Test.YtpafeophdgnkmaaS0
import Derived.Test.YtpafeophdgnkmaaL2
/- The library's sort and its comparison of two rows, at rows of extents. -/
namespace Go.Proofs.Ytpafeophdgnkmaa
open Go.ChangeShapes Go.WideShapes Go.ChangeAt Go.RowKit Go.Shelf Go.Lib Go.Sort
set_option linter.unusedVariables false
open Room

attribute [local go_sem] Oper.semAt_some

def encX (x : Ex) : List Value := [.int .i64 x.1, .int .i64 x.2]
theorem encX_len (x : Ex) : (encX x).length = 2 := rfl
theorem encX_one (x : Ex) : ∀ v ∈ encX x, v.oneCell' = true := fun v hv => by
  simp [encX] at hv
  rcases hv with rfl | rfl <;> rfl
theorem neqX : NeqAt Try.prog 36 (fun x : Ex => .agg (encX x).toArray) (fun x y => decide (x = y)) := by
  refine ⟨fun x y w => ?_, GuardAt.agg _ (by kernel_rfl)⟩
  have u3 := Try.underlying3
  have a3 := Try.isAgg3
  have z3 := Try.sizeOf3
  have hS : Try.prog.underlying 36 = some (.struct (Try.prog.fieldsOf 36)) := by kernel_rfl
  have hp : Try.prog.stoodInHeld 36 = false := by kernel_rfl
  obtain ⟨p, q⟩ := x
  obtain ⟨p', q'⟩ := y
  simp only [encX]
  rw [run_neq_struct, show (10000 : Nat) = 9999 + 1 from rfl, run_equalIn_agg w 9999 36 _ _ hS hp]
  simp only [Program.fieldsOf, Try.underlying36]
  go_simp
  by_cases h1 : p = p' <;> by_cases h2 : q = q' <;> simp [h1, h2]
theorem allEq_eq : ∀ (l m : List Ex), Lib.allEq (fun x y => decide (x = y)) l m = decide (l = m)
  | [], [] => by simp [Lib.allEq]
  | [], y :: m => by simp [Lib.allEq]
  | x :: l, [] => by simp [Lib.allEq]
  | x :: l, y :: m => by
    rw [Lib.allEq, allEq_eq l m]
    by_cases h1 : x = y <;> by_cases h2 : l = m <;> simp [h1, h2]
theorem getE (l : List Ex) (j : Nat) : (l[j]! : Ex) = gx l j := by
  by_cases h : j < l.length
  · rw [gx_eq h]; simp [h]
  · simp [gx, h]; rfl
theorem Exs.src {w : World} {b off : Nat} {l : List Ex} (h : ∀ i, i < l.length → w.cell? ⟨b, off + i * 2, none⟩ = some (.int .i64 (gx l i).1) ∧ w.cell? ⟨b, off + i * 2 + 1, none⟩ = some (.int .i64 (gx l i).2)) : ∀ j, j < l.length → ∀ i v, (encX l[j]!)[i]? = some v → w.cell? ⟨b, off + j * 2 + i, none⟩ = some v := by
  intro j hj i v hv
  rw [getE] at hv
  match i with
  | 0 => simp [encX] at hv; subst hv; exact (h j hj).1
  | 1 => simp [encX] at hv; subst hv; exact (h j hj).2
  | i + 2 => simp [encX] at hv
theorem Equal_any (a a' : Option Addr) (ca ca' : Nat) (l m : List Ex) (w : World) (hn : l.length ≤ 1048576) (hm : m.length ≤ 1048576) (ha : Exs w a l) (ha' : Exs w a' m) :
    Calls Try.prog 60 #[.slice a l.length ca, .slice a' m.length ca'] w fun e w' => e = .returned (.bool (decide (l = m))) ∧ Gr w w' := by
  by_cases hne : l.length = m.length
  · by_cases h0 : l.length = 0
    · have e1 : l = [] := List.eq_nil_of_length_eq_zero h0
      have e2 : m = [] := List.eq_nil_of_length_eq_zero (by omega)
      subst e1 e2
      simp only [List.length_nil, decide_true]
      go_enter Try.func60, Try.ntmps60
      go_wp2
      refine wp_loop_rounds 1 ?_
      rw [rounds_succ]
      go_wp2
      go_ret
      exact ⟨rfl, Gr.refl _⟩
    · obtain ⟨b, off, rfl, hc⟩ := ha h0
      obtain ⟨b', off', rfl, hc'⟩ := ha' (by omega)
      have h := AnyQ.slices_Equal Try.equalL 2 Try.isAgg36 Try.sizeOf36 encX encX_len (fun x y => decide (x = y)) neqX b off l.length ca b' off' m.length ca' l m w (Nat.le_refl _) (Nat.le_refl _) (by omega) (by omega) (Exs.src hc) (Exs.src hc')
      change Calls Try.prog 60 _ _ _ at h
      refine h.mono ?_
      rintro e w' ⟨rfl, q, rfl⟩
      rw [List.take_length, List.take_length, allEq_eq]
      exact ⟨rfl, q, #[], by rw [grow_empty]⟩
  · have hd : l ≠ m := fun e => hne (by rw [e])
    have e1 : decide (l = m) = false := by simp [hd]
    rw [e1]
    have hne' : ((l.length : Int) != (m.length : Int)) = true := by simp; omega
    generalize l.length = n at *
    generalize m.length = n' at *
    go_enter Try.func60, Try.ntmps60
    go_wp2
    go_ret
    exact ⟨rfl, Gr.refl _⟩

theorem ltOf_S (x y : Ex) : ltOf cfS x y = ltS x y := by
  unfold ltOf cfS orI cmpI ltS
  by_cases h1 : x.2 < y.2
  · simp [h1]
  · by_cases h2 : y.2 < x.2
    · have : ¬ x.2 = y.2 := by omega
      simp [h1, h2, this]
    · have e : x.2 = y.2 := by omega
      by_cases h3 : x.1 < y.1
      · simp [e, h3]
      · by_cases h4 : y.1 < x.1 <;> simp [e, h3, h4]
theorem swoS : SWO (ltOf cfS) where
  irrefl x := by rw [ltOf_S]; exact ordS.irr x
  trans x y z h1 h2 := by rw [ltOf_S] at *; exact ordS.tr x y z h1 h2
  ntrans x y z h1 h2 := by
    rw [ltOf_S] at *
    simp only [ltS, Bool.or_eq_false_iff, Bool.and_eq_false_iff, decide_eq_false_iff_not] at *
    omega
theorem cmpLaysS (blk off size : Nat) (w : World) : CmpLays Try.prog 42 #[] encX 2 cfS blk off size w := fun m os dk hs x y => by
  have h := compareSizes_any x y (sortWorldK encX 2 w blk off m dk os)
  exact h.mono fun e w' ⟨he, q, os', hw⟩ => ⟨he, q, os', hw⟩
/-- Sorted by the library: sorted. -/
theorem merge_srt {b : Int} {l : List Ex} (h : Pl b l) : (l.mergeSort fun x y => !(ltOf cfS) y x) = srt l := by
  refine srt_of h ?_ fun x => (List.mergeSort_perm l _).mem_iff
  have h1 := List.pairwise_mergeSort (le := fun x y => !(ltOf cfS) y x) (fun a b c q1 q2 => by
    simp only [Bool.not_eq_true'] at *
    exact swoS.ntrans c b a q2 q1) (fun a b => by
    have : ltOf cfS b a = true → ltOf cfS a b = false := fun q => by
      cases q' : ltOf cfS a b
      · rfl
      · have := swoS.trans _ _ _ q q'
        rw [swoS.irrefl] at this
        cases this
    cases q : ltOf cfS b a
    · rfl
    · simp [this q]) l
  have h2 : (l.mergeSort fun x y => !(ltOf cfS) y x).Nodup := (List.mergeSort_perm l _).nodup_iff.2 h.nodup
  refine List.Pairwise.imp₂ (fun {x y} q1 q2 => ?_) h1 h2
  simp only [ltOf_S, Bool.not_eq_true'] at q1
  cases q : ltS x y
  · exact absurd (totS x y q q1) q2
  · rfl
end Go.Proofs.Ytpafeophdgnkmaa
