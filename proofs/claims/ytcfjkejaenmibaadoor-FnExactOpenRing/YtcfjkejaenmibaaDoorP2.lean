/- Sums of bytes, pure. -/
namespace Go.Proofs.YtcfjkejaenmibaaDoor
set_option linter.unusedVariables false
namespace Lg
/-- The two sums behind so many bytes. -/
def sm (l : List UInt8) : Nat × Nat := l.foldl (fun p b => ((p.1 + b.toNat) % 251, (p.2 + (p.1 + b.toNat) % 251) % 251)) (1, 0)
theorem sm_nil : sm [] = (1, 0) := rfl
theorem sm_snoc (l : List UInt8) (b : UInt8) : sm (l ++ [b]) = (((sm l).1 + b.toNat) % 251, ((sm l).2 + ((sm l).1 + b.toNat) % 251) % 251) := by simp [sm, List.foldl_append]
theorem sm_lt (l : List UInt8) : (sm l).1 < 251 ∧ (sm l).2 < 251 := by
  rcases l.eq_nil_or_concat with rfl | ⟨l, b, rfl⟩
  · exact ⟨by decide, by decide⟩
  · rw [List.concat_eq_append, sm_snoc]
    exact ⟨Nat.mod_lt _ (by omega), Nat.mod_lt _ (by omega)⟩
def smV (t : ByteArray) : Nat := 256 * (sm t.data.toList).2 + (sm t.data.toList).1
theorem smV_lt (t : ByteArray) : smV t < 65536 := by
  have := sm_lt t.data.toList
  unfold smV
  omega
theorem take_snoc (s : ByteArray) (k : Nat) (h : k < s.size) : s.data.toList.take (k + 1) = s.data.toList.take k ++ [s[k]] := by
  rw [List.take_succ_eq_append_getElem (by simpa using h)]; rfl
end Lg
end Go.Proofs.YtcfjkejaenmibaaDoor
