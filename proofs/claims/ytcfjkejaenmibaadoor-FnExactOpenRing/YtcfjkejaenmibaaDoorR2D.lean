import Derived.Test.YtcfjkejaenmibaaDoorR1D
import Derived.Test.YtcfjkejaenmibaaDoorE3
import Derived.LaidHandle
/- The ground of OpenRing's row: the variable that holds the type of errors. -/
namespace Go.Proofs.YtcfjkejaenmibaaDoor
open Go.ChangeShapes Go.WideShapes Go.ChangeAt Go.RowKit Go.Deep Go.Joins
set_option linter.unusedVariables false
open Lg

theorem gEt : Tryd.prog.globalNamed "errors.errorType" = some 2 := by kernel_rfl
theorem rowT : ((List.range Tryd.prog.types.size).all fun t => !(Tryd.prog.rowNamed t [101, 114, 114, 111, 114]) || t == 77) = true := by kernel_rfl
theorem rtypeT : (Tryd.prog.cutTypes.find? (·.1 == "internal/reflectlite.rtype")).map (·.2) = some 108 := by kernel_rfl
/-- What a row's list gives: the type of errors. -/
theorem etype {W : World} {l : List (String × DataW Unit)} (h : laidMetH Tryd.prog l W) (hm : ("errors.errorType", Rows.laid_errors_errorType) ∈ l.filter fun x => x.2.handleName?.isSome) : Et W := by
  have h1 := (laidMetH_iff.1 h).2 _ hm
  have hf : (Rows.laid_errors_errorType : DataW Unit).funcsIn? = none := by kernel_rfl
  simp only [hf] at h1
  obtain ⟨name, u, ty, hn, hu, hty, hr, hv⟩ := h1
  have hn' : (Rows.laid_errors_errorType : DataW Unit).handleName? = some [101, 114, 114, 111, 114] := by kernel_rfl
  obtain rfl : [101, 114, 114, 111, 114] = name := Option.some.inj (hn'.symm.trans hn)
  obtain rfl : 108 = u := Option.some.inj (rtypeT.symm.trans hu)
  have := List.all_eq_true.1 rowT ty (List.mem_range.2 hty)
  rw [hr] at this
  obtain rfl : ty = 77 := by simpa using this
  have hc := World.var?_cell gEt hv 0
  have e : typeHandle Tryd.prog 77 = hd 77 := by kernel_rfl
  rw [e] at hc
  exact (by simpa using hc : W.cell? ⟨2, 0, none⟩ = some (.iface 108 (.agg #[hd 77])))
/-- A world for the witness: tables, sentinels and the type of errors hold what their initialisers lay. -/
noncomputable def laidWorld3 (os : Os) : World :=
  { World.holding Tryd.prog os ⟨#[.cells #[.string blankT] 157, .cells #[.string lostT] 157], #[], []⟩ with heap := ((((((World.holding Tryd.prog os ⟨#[.cells #[.string blankT] 157, .cells #[.string lostT] 157], #[], []⟩).heap.modify 3 (putCells #[.int .u64 1, .int .u64 10, .int .u64 100, .int .u64 1000, .int .u64 10000, .int .u64 100000, .int .u64 1000000, .int .u64 10000000, .int .u64 100000000, .int .u64 1000000000, .int .u64 10000000000, .int .u64 100000000000, .int .u64 1000000000000, .int .u64 10000000000000, .int .u64 100000000000000, .int .u64 1000000000000000, .int .u64 10000000000000000, .int .u64 100000000000000000, .int .u64 1000000000000000000, .int .u64 10000000000000000000])).modify 4 (putCells #[.int .u8 0, .int .u8 1, .int .u8 28, .int .u8 2, .int .u8 29, .int .u8 14, .int .u8 24, .int .u8 3, .int .u8 30, .int .u8 22, .int .u8 20, .int .u8 15, .int .u8 25, .int .u8 17, .int .u8 4, .int .u8 8, .int .u8 31, .int .u8 27, .int .u8 13, .int .u8 23, .int .u8 21, .int .u8 19, .int .u8 16, .int .u8 7, .int .u8 26, .int .u8 12, .int .u8 18, .int .u8 6, .int .u8 11, .int .u8 5, .int .u8 10, .int .u8 9])).modify 5 (putCells #[.int .u8 0, .int .u8 1, .int .u8 56, .int .u8 2, .int .u8 57, .int .u8 49, .int .u8 28, .int .u8 3, .int .u8 61, .int .u8 58, .int .u8 42, .int .u8 50, .int .u8 38, .int .u8 29, .int .u8 17, .int .u8 4, .int .u8 62, .int .u8 47, .int .u8 59, .int .u8 36, .int .u8 45, .int .u8 43, .int .u8 51, .int .u8 22, .int .u8 53, .int .u8 39, .int .u8 33, .int .u8 30, .int .u8 24, .int .u8 18, .int .u8 12, .int .u8 5, .int .u8 63, .int .u8 55, .int .u8 48, .int .u8 27, .int .u8 60, .int .u8 41, .int .u8 37, .int .u8 16, .int .u8 46, .int .u8 35, .int .u8 44, .int .u8 21, .int .u8 52, .int .u8 32, .int .u8 23, .int .u8 11, .int .u8 54, .int .u8 26, .int .u8 40, .int .u8 15, .int .u8 34, .int .u8 20, .int .u8 31, .int .u8 10, .int .u8 25, .int .u8 14, .int .u8 19, .int .u8 9, .int .u8 13, .int .u8 8, .int .u8 7, .int .u8 6])).modify 0 (putCells #[.iface 136 (.pointer (some ⟨low, 0, none⟩))])).modify 1 (putCells #[.iface 136 (.pointer (some ⟨low + 1, 0, none⟩))])).modify 2 (putCells #[.iface 108 (.agg #[hd 77])]) }
end Go.Proofs.YtcfjkejaenmibaaDoor
