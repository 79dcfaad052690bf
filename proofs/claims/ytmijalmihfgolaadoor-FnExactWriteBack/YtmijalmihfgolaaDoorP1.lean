/- Writes in plain: no program in it. -/
namespace Tx
structure Wr where
  s : Int
  d : ByteArray
def zero : Wr := ⟨0, ⟨#[]⟩⟩
end Tx
