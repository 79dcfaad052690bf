import Derived.Test.YtodidnbghiinkaaB3
/- The program puts a piece behind bytes. -/
namespace Go.Proofs.Ytodidnbghiinkaa
open Go.ChangeShapes Go.WideShapes Go.ChangeAt Go.RowKit
set_option linter.unusedVariables false
open Tz

attribute [local go_sem] Oper.semAt_some

/-- The bytes of a text laid in a row of their own. -/
theorem bytes_of (s : ByteArray) (w : World) : ∃ (cp : Nat) (z : Nat × Nat) (W : World) (c : Array Value), (convert 9 39 (.string s)).run Try.prog w = .ok (.slice (some ⟨w.heap.size, 0, none⟩) s.size cp) W ∧ Below w.heap.size w W ∧ W.heap[w.heap.size]? = some (.cells c 5 z) ∧ ∀ (j : Nat) (u : Value), (bys (bt s))[j]? = some u → c[j]? = some u :=
  ⟨_, _, _, _, run_bytes_of_string (P := Try.prog) w 9 39 5 s Try.underlying9 Try.underlying39 Try.underlying5, (Below.refl _ _).drew.alloc (Nat.le_refl _) _, heap_alloc_new w.drew _, fun j u hj => by
    have hl : j < (bt s).length := by have := (List.getElem?_eq_some_iff.1 hj).1; rwa [bys_len] at this
    have hl' : j < s.data.size := hl
    unfold bytesRow
    rw [Array.getElem?_append_left (by simpa using hl')]
    rw [← hj]
    simp [bys]⟩
/-- A row of bytes in a block, which can be read. -/
def Src (w : World) (sb : Nat) (B : List UInt8) : Prop := ∃ (c : Array Value) (z : Nat × Nat) (t : TypeId), w.heap[sb]? = some (.cells c t z) ∧ ∀ (j : Nat) (u : Value), (bys B)[j]? = some u → c[j]? = some u
theorem Src.cells {w : World} {sb : Nat} {B : List UInt8} (h : Src w sb B) : ∀ (j : Nat) (u : Value), (bys B)[j]? = some u → w.cell? ((⟨sb, 0, none⟩ : Addr).add j) = some u := by
  obtain ⟨c, z, t, h1, h2⟩ := h
  intro j u hj
  rw [addN, Nat.zero_add]
  exact cell_of_blockz h1 (h2 j u hj)
theorem Src.same {w w' : World} {sb : Nat} {B : List UInt8} (h : Src w sb B) (e : w'.heap[sb]? = w.heap[sb]?) : Src w' sb B := by
  obtain ⟨c, z, t, h1, h2⟩ := h
  exact ⟨c, z, t, by rw [e]; exact h1, h2⟩
theorem Src.lt {w : World} {sb : Nat} {B : List UInt8} (h : Src w sb B) : sb < w.heap.size := by
  obtain ⟨c, z, t, h1, h2⟩ := h
  exact box_lt h1
theorem byte_mod (b : UInt8) : ((b.toNat : Nat) : Int) % 256 = ((b.toNat : Nat) : Int) := by have := b.toNat_lt; omega
set_option maxHeartbeats 1000000 in
theorem withPiece_any (v : Value) (b B : List UInt8) (h : UInt8) (sb c : Nat) (Z : Nat) (w : World) (hO : OwnB w Z v b) (hZ : Z ≤ w.heap.size) (hb : b.length ≤ 1000000) (hB : B.length ≤ 1000000) (hs : Src w sb B) (hne : v.ownBlock ≠ some sb) :
    Calls Try.prog 52 #[v, .int .i64 (h.toNat : Int), .slice (some ⟨sb, 0, none⟩) B.length c] w fun e w' => Below Z w w' ∧ ∃ v', e = .returned v' ∧ OwnB w' Z v' (b ++ h :: B) := by
  have hm := byte_mod h
  have own2 : (w.alloc (.cells #[.int .u8 h.toNat] 5)).ownsRow Z 5 1 v b.length (bys b) := owns_below hO (below_alloc _ _)
  have sr := cell_one w h 5
  have hb2 : Below Z w (w.alloc (.cells #[.int .u8 h.toNat] 5)) := (below_alloc _ _).mono hZ
  have z2 : Z ≤ (w.alloc (.cells #[.int .u8 h.toNat] 5)).heap.size := Nat.le_trans hZ (below_alloc _ _).size
  have HS2 : Hid (Src (w.alloc (.cells #[.int .u8 h.toNat] 5)) sb B) := hs.same (heap_alloc_old w _ hs.lt)
  have hbl : (bys b).length = b.length := bys_len b
  have HN : Hid (∀ w1 w2 : World, w1.grownBy w2 v.ownBlock → sb < w1.heap.size → w2.heap[sb]? = w1.heap[sb]?) := fun w1 w2 g hl => g.block sb hl (fun e => hne e.symm)
  have Hh : Hid ((b ++ [h]).length = b.length + 1 ∧ bys (b ++ [h]) = bys b ++ [.int .u8 h.toNat]) := ⟨by simp, by simp [bys]⟩
  have HE : Hid (b ++ h :: B = (b ++ [h]) ++ B) := by show _ = _; simp
  obtain ⟨m, hBl⟩ : ∃ m, B.length = m := ⟨_, rfl⟩
  have HBl : Hid _ := hBl
  rw [hBl] at hB ⊢
  obtain ⟨n, hnl⟩ : ∃ n, b.length = n := ⟨_, rfl⟩
  rw [hnl] at own2 hb Hh
  have Hnl : Hid _ := hnl
  clear hO hs hne hBl hnl hbl
  obtain ⟨y, cv, rfl⟩ := owns_form own2
  go_enter Try.func52, Try.ntmps52
  go_wp2_with (first
    | (at_builtin; refine wpList_append_src rfl _ _ 39 rfl Z 5 _ 1 1 Try.underlying39 info5 rfl (by decide) (.slice y n cv) n (bys b) rfl own2 (some ⟨w.heap.size, 0, none⟩) 1 1 [.int .u8 h.toNat] rfl rfl sr (by simp [Value.oneCell']) (by omega) (by decide) z2 ?_; intro v3 w3 own3 gr3; have b3 : Below Z w w3 := grown_on hb2 z2 own2 gr3; have z3 : Z ≤ w3.heap.size := Nat.le_trans z2 gr3.size; have S3 : Hid (Src w3 sb B) := HS2.out.same (HN.out _ _ gr3 HS2.out.lt); have O3 : Hid (w3.ownsRow Z 5 1 v3 (n + 1) (bys b ++ [.int .u8 h.toNat])) := own3; clear own2 sr hb2 z2 HS2 gr3 own3 HN; obtain ⟨y3, c3, e3⟩ := owns_form O3.out; subst e3)
    | (at_builtin; refine wpList_append_src rfl _ _ 39 rfl Z 5 _ 1 1 Try.underlying39 info5 rfl (by decide) (.slice y3 (n + 1) c3) (n + 1) (bys b ++ [.int .u8 h.toNat]) rfl O3.out (some ⟨sb, 0, none⟩) m c (bys B) rfl (by rw [bys_len, HBl.out, Nat.mul_one]) (.inr ⟨_, rfl, S3.out.cells⟩) (bys_one B) (by omega) (by decide) z3 ?_; intro v4 w4 own4 gr4; have b4 : Below Z w w4 := grown_on b3 z3 O3.out gr4; have O4' : Hid (w4.ownsRow Z 5 1 v4 (n + 1 + m) (bys b ++ [.int .u8 h.toNat] ++ bys B)) := own4; clear own4 gr4; obtain ⟨y4, c4, e4⟩ := owns_form O4'.out; subst e4))
  go_ret
  refine ⟨b4, _, rfl, ?_⟩
  rw [HE.out]
  show w4.ownsRow Z 5 1 _ (b ++ [h] ++ B).length (bys (b ++ [h] ++ B))
  rw [List.length_append, bys_app, Hh.out.1, Hh.out.2, HBl.out]
  exact O4'.out
end Go.Proofs.Ytodidnbghiinkaa
