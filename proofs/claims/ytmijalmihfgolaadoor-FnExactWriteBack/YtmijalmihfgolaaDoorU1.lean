import Derived.Test.YtmijalmihfgolaaDoorT6
import Derived.Test.YtmijalmihfgolaaDoorP4
import Derived.Test.YtmijalmihfgolaaDoorQD
/- The writes of a log: the specification's side. -/
namespace Go.Proofs.YtmijalmihfgolaaDoor
open Go.ChangeShapes Go.WideShapes Go.ChangeAt Go.RowKit
set_option linter.unusedVariables false
open Tx

attribute [local go_sem] Oper.semAt_some

/-- A row of texts that can be read. -/
abbrev RowT (w : World) (a : Option Addr) (L : List ByteArray) : Prop := At w a L.length fun i => .string (gt L i)
def FewT (L : List ByteArray) : Prop := ∀ i, i < L.length → (gt L i).size ≤ 9223372036854775807
theorem src2W {w : World} {a : Option Addr} {l : List Wr} (h : RowW w a l) : l.length = 0 ∨ ∃ ad, a = some ad ∧ ∀ j v, (cws l)[j]? = some v → w.cell? (ad.add j) = some v := by
  rw [cws_wrt]
  exact src2 h
def WrRes (w w' : World) (e : Ending) (n : Nat) (G : List ByteArray) : Prop :=
  Below w.heap.size w w' ∧ ∃ v, e = .returned (.tuple #[v, .bool (G.all (okG n))]) ∧ OwnW w' w.heap.size v (bif G.all (okG n) then wrs G else [])
theorem all_no {n : Nat} {G : List ByteArray} {k : Nat} (hk : k < G.length) (h : okG n (gt G k) = false) : G.all (okG n) = false := by
  cases q : G.all (okG n) with
  | false => rfl
  | true =>
    have := List.all_eq_true.1 q (gt G k) (by rw [gt_lt hk]; exact List.getElem_mem _)
    rw [h] at this
    cases this
theorem all_yes {n : Nat} {G : List ByteArray} (h : ∀ i, i < G.length → okG n (gt G i) = true) : G.all (okG n) = true := by
  rw [List.all_eq_true]
  intro g hg
  obtain ⟨i, hi, rfl⟩ := List.mem_iff_getElem.1 hg
  rw [← gt_lt hi]
  exact h i hi
theorem rd_8 {n : Nat} {g : ByteArray} (h : okG n g = true) : (rdL g).length ≤ 8 := (txB_iff.1 (okG_iff.1 h).2).2.1

set_option maxRecDepth 20000 in
set_option maxHeartbeats 4000000 in
theorem l11Writes_any (a : Option Addr) (c : Nat) (G : List ByteArray) (n : Nat) (w : World) (hn : n ≤ 9223372036854775807) (hG : G.length ≤ 1048576) (hs : FewT G) (ha : RowT w a G) :
    Calls Tryd.prog 46 #[.slice a G.length c, .int .i64 n] w fun e w' => WrRes w w' e n G := by
  have HN : Hid (∀ w' k, k < G.length → okG n (gt G k) = false → Below w.heap.size w w' → WrRes w w' (.returned (.tuple #[.slice none 0 0, .bool false])) n G) := fun w' k hk h hb => by
    rw [WrRes, all_no hk h]
    exact ⟨hb, _, rfl, OwnW.nil _ _⟩
  have HY : Hid (∀ w' v, (∀ i, i < G.length → okG n (gt G i) = true) → Below w.heap.size w w' → OwnW w' w.heap.size v (wrs G) → WrRes w w' (.returned (.tuple #[v, .bool true])) n G) := fun w' v h hb ho => by
    rw [WrRes, all_yes h]
    exact ⟨hb, _, rfl, ho⟩
  go_enter Tryd.func46, Tryd.ntmps46
  go_wp2
  go_loopw [6, 13] (fun v i wr => ∃ (k : Nat), k ≤ G.length ∧ i = .int .i64 k ∧ Hid (OwnW wr w.heap.size v (wrs (G.take k))) ∧ Hid (∀ i, i < k → okG n (gt G i) = true) ∧ Hid (Below w.heap.size w wr)) (fun _ i _ => G.length - (intOf i).toNat)
  case atStart => exact ⟨0, Nat.zero_le _, rfl, OwnW.nil _ _, fun i hi => absurd hi (by omega), Below.refl _ _⟩
  case round =>
    obtain ⟨k, hk, rfl, hO, hall, hb⟩ := hrel
    obtain ⟨x, xc, hx⟩ := owns_form hO.out
    subst hx
    have hle : (wrs (G.take k)).length ≤ 8 * k := wrs_le k hk hall.out
    by_cases hlt : k < G.length
    · obtain ⟨b, off, rfl, hcell⟩ := (ha.below hb.out) (by omega)
      have hck : wr.cell? ⟨b, off + k, none⟩ = some (.string (gt G k)) := hcell k hlt
      have hsk := hs k hlt
      have hlt' : (k : Int) < (G.length : Int) := by omega
      have hSu := wrs_succ hlt
      have HSu : Hid _ := hSu
      clear hcell hSu
      have HOK : Hid (okG n (gt G k) = (rdB (gt G k) && txB n (rdL (gt G k)))) := rfl
      have cR := l11Read_any (gt G k) wr hsk
      unfold RdRes at cR
      obtain ⟨ok, hok⟩ : ∃ ok, rdB (gt G k) = ok := ⟨_, rfl⟩
      rw [hok] at cR HOK
      have hlen : (rdL (gt G k)).length ≤ 255 := by rw [rdL_len]; have := UInt8.toNat_lt (bt (gt G k) 0); omega
      generalize hg : gt G k = g at *
      have HG : Hid _ := hg
      clear hg
      cases ok with
      | false =>
        go_wp2_with (go_at_call 83; refine cR.mono ?_; rintro e w2 ⟨b2, v2, rfl, o2⟩)
        go_ret2
        exact HN.out _ k hlt (by rw [HG.out, HOK.out]; rfl) (Below.comp hb.out b2)
      | true =>
        simp only [cond_true] at cR
        rw [Bool.true_and] at HOK
        obtain ⟨T, hT⟩ : ∃ T, txB n (rdL g) = T := ⟨_, rfl⟩
        rw [hT] at HOK
        have HF : Hid (Few (rdL g)) := few_of (fun i hi => (fit_iff.1 ((txB_iff.1 (rdB_ok hok)).2.2 i hi).1).2.2)
        go_wp2_with fail
        refine cR.mono ?_
        rintro e w2 ⟨b2, v2, rfl, o2⟩
        obtain ⟨y, yc, rfl, hyc, my⟩ := OwnW.form o2
        have cT := l11Txn_any y yc (rdL g) n w2 hn (by omega) hyc HF.out my.wrts
        rw [hT] at cT
        have O1 : Hid _ := owns_below hO.out b2
        have HM : Hid _ := my
        clear o2 my cR hok hT
        generalize hl : rdL g = l at *
        generalize wrs (G.take k) = acc at *
        cases T with
        | false =>
          go_wp2_with (go_at_call 53; refine cT.mono ?_; rintro e w3 ⟨rfl, b3⟩)
          go_ret2
          exact HN.out _ k hlt (by rw [HG.out, HOK.out]) (Below.comp hb.out (Below.comp b2 b3))
        | true =>
          have hsz : w.heap.size ≤ wr.heap.size := hb.out.size
          have hsz2 : wr.heap.size ≤ w2.heap.size := b2.size
          go_wp2_with (first
            | (go_at_call 53; refine cT.mono ?_; rintro e w3 ⟨rfl, b3⟩; have O3 : Hid _ := owns_below O1.out b3; have M3 : Hid _ := Mine.below HM.out b3; have hz3 : w.heap.size ≤ w3.heap.size := (by have := b3.size; omega))
            | (at_builtin; refine wpList_append_src rfl _ _ 30 rfl w.heap.size 63 _ 2 24 Tryd.underlying30 info42 rfl (by decide) (.slice x acc.length xc) acc.length (cws acc) rfl O3.out y l.length yc (cws l) rfl (cws_len _) (src2W (Mine.wrts M3.out)) (cws_one _) (by omega) (by decide) hz3 ?_; intro v4 w4 own4 gr4; have g4 : Hid _ := grown_on ((hb.out.trans (b2.mono hsz)).trans (b3.mono (by omega))) hz3 O3.out gr4; have O4 : Hid _ := own4; clear own4 gr4))
          go_roundw
          case rel =>
            refine ⟨k + 1, by omega, by go_num, ?_, ?_, g4.out⟩
            · rw [HSu.out]
              show OwnW _ _ _ _
              unfold OwnW
              rw [List.length_append, cws_app]
              exact O4.out
            · intro i hi
              by_cases e : i = k
              · subst e; rw [HG.out, HOK.out]
              · exact hall.out i (by omega)
          case measure => simp [intOf]; omega
    · obtain rfl : k = G.length := by omega
      go_wp2
      go_ret2
      refine HY.out _ _ hall.out hb.out ?_
      have := hO.out
      rw [List.take_length] at this ⊢
      exact this
end Go.Proofs.YtmijalmihfgolaaDoor
