import Derived.Test.YtmijalmihfgolaaT6
/- A transaction read out of its text: the specification's side. -/
namespace Go.Proofs.Ytmijalmihfgolaa
open Go.ChangeShapes Go.WideShapes Go.ChangeAt Go.RowKit
set_option linter.unusedVariables false
open Tx

attribute [local go_sem] Oper.semAt_some


set_option maxHeartbeats 400000 in
theorem specRead_any (s : ByteArray) (w : World) (hs : s.size ≤ 9223372036854775807) :
    Calls Try.prog 16 #[.string s] w fun e w' => RdRes w w' e s := by
  have K := l11Read_any s w hs
  go_enter Try.func16, Try.ntmps16
  go_wp2_with (go_at_call 35; refine K.mono ?_; rintro e w2 ⟨b2, v, rfl, h2⟩)
  go_ret2
  exact ⟨b2, v, rfl, h2⟩
end Go.Proofs.Ytmijalmihfgolaa
