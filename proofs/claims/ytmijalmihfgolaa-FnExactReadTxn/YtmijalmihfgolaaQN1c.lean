import Derived.Test.YtmijalmihfgolaaQM3c
import Derived.Deep.RegionLaw
namespace Go.Proofs.Ytmijalmihfgolaa
open Go.ChangeShapes Go.WideShapes Go.ChangeAt Go.RowKit
set_option linter.unusedVariables false
open Tx

attribute [local go_sem] Oper.semAt_some


def zeros8 : ByteArray := ⟨#[0, 0, 0, 0, 0, 0, 0, 0]⟩
def newOK (s : Int) : Bool := decide (1 ≤ s ∧ s ≤ 32)
def newN (s : Int) : Nat := bif newOK s then s.toNat else 0
def newS : Nat → ByteArray := fun _ => zeros8

theorem Out.frozen {B C : Nat} {w w' : World} {b o : Nat} (h : Out B C w w') (hlt : b < w.heap.size) (hd : b < B ∨ C ≤ b) : w'.frozen? ⟨b, o, none⟩ = w.frozen? ⟨b, o, none⟩ := World.frozen?_of_block (w := w) (h.block b hlt hd)

/-- string(b) of eight noughts at the head of a block. -/
theorem conv_zeros {w : World} {b : Nat} (h : ∀ j, j < 8 → w.cell? ⟨b, j, none⟩ = some (.int .u8 0)) : (convert 57 9 (.slice (some ⟨b, 0, none⟩) 8 8)).run Try.prog w = .ok (.string zeros8) w :=
  run_convert_bytes_back (P := Try.prog) w 57 9 5 ⟨b, 0, none⟩ 8 [0, 0, 0, 0, 0, 0, 0, 0] Try.underlying57 Try.underlying5 Try.underlying9 (fun j hj => by
    have e : (⟨b, 0, none⟩ : Addr).add j = ⟨b, j, none⟩ := by unfold Addr.add; split <;> simp_all
    rw [e, h j hj]
    match j, hj with
    | 0, _ => rfl
    | 1, _ => rfl
    | 2, _ => rfl
    | 3, _ => rfl
    | 4, _ => rfl
    | 5, _ => rfl
    | 6, _ => rfl
    | 7, _ => rfl)

/-- What a function that answers a device and a bool leaves. -/
def DevRes (w w' : World) (e : Ending) (N M : Nat) (ok : Bool) (S : Nat → ByteArray) (T : Nat → Int) (U : Nat → ByteArray) : Prop :=
  Below w.heap.size w w' ∧ ∃ x cx y cy, e = .returned (.tuple #[.agg #[.slice x N cx, .slice y M cy], .bool ok]) ∧ MineD w' w.heap.size w'.heap.size x y N M S T U
theorem DevRes.none {w w' : World} (hb : Below w.heap.size w w') (S : Nat → ByteArray) (T : Nat → Int) (U : Nat → ByteArray) : DevRes w w' (.returned (.tuple #[.agg #[.slice none 0 0, .slice none 0 0], .bool false])) 0 0 false S T U :=
  ⟨hb, Option.none, 0, Option.none, 0, rfl, mine_none _ _ _ _ _ _, mine_none _ _ _ _ _ _⟩
def noT : Nat → Int := fun _ => 0
def noU : Nat → ByteArray := fun _ => ⟨#[]⟩

theorem step_append_own {P : Program} {ops : Array Oper} {o : Oper} {a : Act} {w : World} {K : Act → World → Prop} {Q : Exit → Act → World → Prop} {E : Prop}
    (hg : o.guard = none) (s x : Operand) (t : TypeId) (hop : o.op = Op.call { callee := Callee.builtin Builtin.append, args := #[s, x], argTypes := #[t, t] })
    (base : Nat) (e : TypeId) (i : TypeInfo) (z : Value) (size bytes : Nat) (ht : P.underlying t = some (.slice e)) (hi : P.info? e = some i) (hz : i.zero = some z)
    (hsize : i.size = size) (hby : i.bytes = bytes) (hzs : z.cells.size = size) (hsz : 0 < size)
    (v : Value) (n : Nat) (xs : List Value) (hs : a.eval s = v) (hown : w.ownsRow base e size v n xs)
    (ad : Addr) (m c : Nat) (news : List Value) (hx : a.eval x = .slice (some ad) m c) (hl : news.length = m * size) (hnews : ∀ j u, news[j]? = some u → w.cell? (ad.add j) = some u) (h1 : ∀ u ∈ news, u.oneCell' = true)
    (h63 : n + m ≤ maxLen) (hbytes : (n + m) * bytes ≤ 140737488355328) (hbase : base ≤ w.heap.size)
    (hK : ∀ v' w', w'.ownsRow base e size v' (n + m) (xs ++ news) → w.grownBy w' v.ownBlock → K (a.put o.dst v') w') :
    if Region.wanted o (yielded ops a.tmps) = true then Oper.wp P o a w K Q else E := by
  have hw : Region.wanted o (yielded ops a.tmps) = true := by simp [Region.wanted, hg]
  rw [if_pos hw]
  obtain ⟨v', w', hrun, r1, r2, _⟩ := run_append_own (P := P) w base t o.type e i z size bytes ht hi hz hsize hby hzs hsz v n xs hown ad m c news hl hnews h1 h63 hbytes hbase
  unfold Oper.wp
  simp [execOp, hop, resolve, invoke, builtin, hs, hx, hrun, Result.andThen]
  exact hK v' w' r1 r2

theorem strCells_succ (k : Nat) (S : Nat → ByteArray) : strCells k S ++ [.string (S k)] = strCells (k + 1) S := by simp [strCells, List.range_succ]

theorem one_cell (u : Value) (h : u.oneCell' = true) : ∀ x ∈ [u], x.oneCell' = true := by
  intro x hx
  rw [List.mem_singleton] at hx
  rw [hx]; exact h
theorem grow_box {w1 w2 : World} {v : Value} {b B : Nat} {o : Obj} {e : TypeId} {size n : Nat} {xs : List Value} (hown : w1.ownsRow B e size v n xs) (hg : w1.grownBy w2 v.ownBlock) (hb : b < B) (h : w1.heap[b]? = some o) : w2.heap[b]? = some o := by
  rw [hg.block b (Array.getElem?_eq_some_iff.1 h).1 (fun e1 => by have := (hown.lt b e1.symm).1; omega)]
  exact h
end Go.Proofs.Ytmijalmihfgolaa
