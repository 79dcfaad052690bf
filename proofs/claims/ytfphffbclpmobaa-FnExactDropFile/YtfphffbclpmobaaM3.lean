import Derived.Test.YtfphffbclpmobaaM2
import Derived.Test.YtfphffbclpmobaaOL
import Derived.Maps.AppendAt
/- A file put to an open vault. -/
namespace Go.Proofs.Ytfphffbclpmobaa
open Go.ChangeShapes Go.WideShapes Go.ChangeAt Go.RowKit Go.Maps
set_option linter.unusedVariables false
open Hd

attribute [local go_sem] Oper.semAt_some

theorem wpList_append_at {P : Program} {w : World} {ops : Array Oper} {rest : List Oper} {o : Oper} {a : Act} {Q : Exit → Act → World → Prop} (hgd : o.guard = none) (s x : Operand) (t : TypeId)
    (ho : o.op = .call { callee := .builtin .append, args := #[s, x], argTypes := #[t, t] })
    (base : Nat) (e : TypeId) (z : Value) (size bytes : Nat) (ht : P.underlying t = some (.slice e)) (hinfo : (P.info? e).map (fun i => (i.zero, i.size, i.bytes)) = some (some z, size, bytes)) (hzs : z.cells.size = size) (hsz : 0 < size)
    (v : Value) (n : Nat) (xs : List Value) (hs : a.eval s = v) (hown : w.ownsRow base e size v n xs)
    (ad : Addr) (m c : Nat) (news : List Value) (hx : a.eval x = .slice (some ad) m c) (hl : news.length = m * size) (hnews : ∀ j u, news[j]? = some u → w.cell? (ad.add j) = some u) (h1 : ∀ u ∈ news, u.oneCell' = true)
    (h63 : n + m ≤ 1000000000) (hbytes : bytes ≤ 100000) (hbase : base ≤ w.heap.size)
    (h : ∀ v' w', w'.ownsRow base e size v' (n + m) (xs ++ news) → w.grownBy w' v.ownBlock → (v'.ownBlock = v.ownBlock ∨ v'.ownBlock = some w.heap.size) → wpList P ops Q rest (a.put o.dst v') w') : wpList P ops Q (o :: rest) a w := by
  refine wpList_plain hgd fun K hK => ?_
  obtain ⟨i, hi, hz0, hz1, hz2⟩ := info_parts hinfo
  have hb2 : (n + m) * bytes ≤ 1000000000 * 100000 := Nat.mul_le_mul h63 hbytes
  obtain ⟨v', w', hrun, r1, r2, -, r4⟩ := run_append_own_at (P := P) w base t o.type e i z size bytes ht hi hz0 hz1 hz2 hzs hsz v n xs hown ad m c news hl hnews h1 (by unfold maxLen; omega) (by omega) hbase
  unfold Oper.wp
  simp [execOp, ho, resolve, invoke, builtin, hs, hx, hrun, Result.andThen]
  exact hK _ _ (h v' w' r1 r2 r4)
/-- The texts of a file at a place. -/
def gt (F : List (List ByteArray)) (i : Nat) : List ByteArray := F.getD i []
/-- A row of texts in a block apart. -/
def TRow (w : World) (lo e1 e2 : Nat) (oy : Option Nat) (v : Value) (l : List ByteArray) : Prop :=
  ∃ a c, v = .slice a l.length c ∧ l.length ≤ c ∧ (l.length ≠ 0 → ∃ b off, a = some ⟨b, off, none⟩ ∧ lo ≤ b ∧ b ≠ e1 ∧ b ≠ e2 ∧ some b ≠ oy ∧ ∀ i, i < l.length → w.cell? ⟨b, off + i, none⟩ = some (.string (gs l i)))
/-- A row of rows of texts that may be appended to. -/
def FRow (w : World) (lo e1 e2 : Nat) (y : Value) (F : List (List ByteArray)) : Prop :=
  ∃ vs : List Value, w.ownsRow lo 72 1 y F.length vs ∧ (∀ k, y.ownBlock = some k → k ≠ e1 ∧ k ≠ e2) ∧ ∀ i, i < F.length → ∃ v, vs[i]? = some v ∧ TRow w lo e1 e2 y.ownBlock v (gt F i)
theorem TRow.strs {w : World} {lo e1 e2 : Nat} {oy : Option Nat} {v : Value} {l : List ByteArray} (h : TRow w lo e1 e2 oy v l) : ∃ a c, v = .slice a l.length c ∧ l.length ≤ c ∧ Strs w a l := by
  obtain ⟨a, c, e, hc, hr⟩ := h
  exact ⟨a, c, e, hc, fun hn => by obtain ⟨b, off, e1, -, -, -, -, h⟩ := hr hn; exact ⟨b, off, e1, h⟩⟩
/-- Cells stay where their block does. -/
theorem cell_same {w w' : World} {b o : Nat} {v : Value} (h : w.cell? ⟨b, o, none⟩ = some v) (hb : w'.heap[b]? = w.heap[b]?) : w'.cell? ⟨b, o, none⟩ = some v := by
  simp only [World.cell?] at h ⊢
  rw [hb]
  exact h
theorem TRow.same {w w' : World} {lo e1 e2 : Nat} {oy : Option Nat} {v : Value} {l : List ByteArray} (h : TRow w lo e1 e2 oy v l) (hs : ∀ b, b < w.heap.size → b ≠ e1 → b ≠ e2 → some b ≠ oy → w'.heap[b]? = w.heap[b]?) : TRow w' lo e1 e2 oy v l := by
  obtain ⟨a, c, e, hc, hr⟩ := h
  exact ⟨a, c, e, hc, fun hn => by
    obtain ⟨b, off, g1, g2, g3, g4, g5, g6⟩ := hr hn
    exact ⟨b, off, g1, g2, g3, g4, g5, fun i hi => cell_same (g6 i hi) (hs b (lt_of_cell (g6 i hi)) g3 g4 g5)⟩⟩
theorem TRow.of_own {w : World} {B : Nat} {v : Value} {l : List ByteArray} (h : OwnS w B v l) {lo e1 e2 : Nat} {oy : Option Nat} (h1 : lo ≤ B) (h2 : e1 < B) (h3 : e2 < B) (h4 : ∀ k, oy = some k → k < B) : TRow w lo e1 e2 oy v l := by
  obtain ⟨a, c, e, hc, hs⟩ := h.strs
  refine ⟨a, c, e, hc, fun hn => ?_⟩
  obtain ⟨b, off, rfl, hcell⟩ := hs hn
  have hB : B ≤ b := by
    rcases h.2 with ⟨e', h0⟩ | ⟨g, cap, cur, e', hb, _⟩
    · exact absurd h0 hn
    · rw [e] at e'
      simp at e'
      omega
  exact ⟨b, off, rfl, by omega, by omega, by omega, fun q => by have := h4 b q.symm; omega, hcell⟩
theorem infoS : (Try.prog.info? 72).map (fun i => (i.zero, i.size, i.bytes)) = some (some (.slice none 0 0), 1, 24) := by kernel_rfl
theorem gt_snoc_lt {F : List (List ByteArray)} {x : List ByteArray} {i : Nat} (h : i < F.length) : gt (F ++ [x]) i = gt F i := by simp [gt, List.getElem?_append_left h]
theorem gt_snoc {F : List (List ByteArray)} {x : List ByteArray} : gt (F ++ [x]) F.length = x := by simp [gt]
set_option maxHeartbeats 4000000 in
set_option maxRecDepth 20000 in
theorem addFile_any (lo ob M n N Q : Nat) (g : SG) (y : Value) (F : List (List ByteArray)) (a : Option Addr) (c : Nat) (l : List ByteArray) (w : World)
    (hB : w.heap[ob]? = some (.cells #[.map (some M), y] 52 (0, 0))) (h1 : lo ≤ ob) (h2 : lo ≤ M) (h3 : M ≠ ob) (hG : GM w M n g N) (hn : n + l.length < 1000000) (hN : N ≤ n) (hQ : Qs g Q) (hQ' : Q + l.length ≤ 1000000)
    (hF : FRow w lo ob M y F) (hFl : F.length ≤ 1000) (hT : TRow w lo ob M y.ownBlock (.slice a l.length c) l) (hsz : ∀ i, i < l.length → (gs l i).size ≤ maxLen) (hz : lo ≤ w.heap.size) :
    Calls Try.prog 35 #[.pointer (some ⟨ob, 0, none⟩), .slice a l.length c] w fun e w' => e = .returned (.tuple #[]) ∧ Below lo w w' ∧ ∃ y', w'.heap[ob]? = some (.cells #[.map (some M), y'] 52 (0, 0)) ∧ GM w' M (n + l.length) (adL (g, N) l).1 (adL (g, N) l).2 ∧ FRow w' lo ob M y' (F ++ [l]) := by
  have HB : Hid (w.heap[ob]? = some (.cells #[.map (some M), y] 52 (0, 0))) := hB
  have HF : Hid (FRow w lo ob M y F) := hF
  have HT : Hid (TRow w lo ob M y.ownBlock (.slice a l.length c) l) := hT
  have HSZ : Hid (∀ i, i < l.length → (gs l i).size ≤ maxLen) := hsz
  have HQ : Hid (Qs g Q) := hQ
  have HNe : Hid (M ≠ ob) := h3
  have HNle : Hid (∀ k, k ≤ l.length → (adL (g, N) (l.take k)).2 ≤ n + k) := fun k hk => by
    have key : ∀ (l : List ByteArray) (s : SG × Nat), (adL s l).2 ≤ s.2 + l.length := by
      intro l
      induction l with
      | nil => intro s; exact Nat.le_refl _
      | cons t l ih =>
        intro s
        have h1 := ih (ad1 s t)
        have h2 : (ad1 s t).2 ≤ s.2 + 1 := by unfold ad1; split <;> simp
        show (adL (ad1 s t) l).2 ≤ _
        rw [List.length_cons]
        omega
    have := key (l.take k) (g, N)
    have h4 : (l.take k).length ≤ k := List.length_take_le _ _
    simp only at this
    omega
  clear hB hF hT hsz hQ h3
  obtain ⟨m, hm⟩ : ∃ m, l.length = m := ⟨_, rfl⟩
  have Hm : Hid (l.length = m) := hm
  rw [hm] at hn hQ' HSZ HNle
  have hGM0 : Hid (GM w M n g N) := hG
  rw [hm]
  clear hm hG
  obtain ⟨o0, o1, p0, p1⟩ := box2_cells HB.out
  go_enter Try.func35, Try.ntmps35
  go_wp2
  clear o0 o1 p0 p1
  go_loopw [10] (fun i ws => ∃ (k : Nat), k ≤ m ∧ i = .int .i64 (k : Int) ∧ Hid (GM ws M (n + k) (adL (g, N) (l.take k)).1 (adL (g, N) (l.take k)).2) ∧ Out M (M + 1) w ws) (fun i _ => m - (intOf i).toNat)
  case atStart => exact ⟨0, Nat.zero_le _, rfl, hGM0, Out.refl _ _ _⟩
  case round =>
    obtain ⟨k, hk, rfl, HG, ho⟩ := hrel
    by_cases hlt : k < m
    · obtain ⟨b, off, ea, -, hb1, hb2, -, hcell⟩ : ∃ b off, a = some ⟨b, off, none⟩ ∧ lo ≤ b ∧ b ≠ ob ∧ b ≠ M ∧ some b ≠ y.ownBlock ∧ ∀ i, i < l.length → w.cell? ⟨b, off + i, none⟩ = some (.string (gs l i)) := by
        obtain ⟨a1, c1, e1, -, hr⟩ := HT.out
        simp only [Value.slice.injEq] at e1
        obtain ⟨rfl, -, rfl⟩ := e1
        exact hr (by rw [Hm.out]; omega)
      subst ea
      have t0w := hcell k (by rw [Hm.out]; exact hlt)
      have t0 : wr.cell? ⟨b, off + k, none⟩ = some (.string (gs l k)) := cell_same t0w (ho.block b (lt_of_cell t0w) (by omega))
      clear hcell t0w
      have hkn : (k : Int) < (m : Int) := by omega
      have HTk : Hid (l.take (k + 1) = l.take k ++ [gs l k]) := take_gs (by rw [Hm.out]; exact hlt)
      have HSz : Hid ((gs l k).size ≤ maxLen) := HSZ.out k hlt
      have HQk : Hid (Qs (adL (g, N) (l.take k)).1 (Q + k)) := by
        have := HQ.out
        have h5 := Qs.adL (s := (g, N)) this (l.take k)
        rwa [List.length_take, Hm.out, Nat.min_eq_left hk] at h5
      have HNk : Hid ((adL (g, N) (l.take k)).2 ≤ n + k) := HNle.out k hk
      have HSt : Hid (adL (g, N) (l.take (k + 1)) = ad1 (adL (g, N) (l.take k)) (gs l k)) := by show _ = _; rw [HTk.out, adL_snoc]
      obtain ⟨S, hS⟩ : ∃ S, adL (g, N) (l.take k) = S := ⟨_, rfl⟩
      rw [hS] at HG HQk HNk HSt
      clear hS HTk
      obtain ⟨gg, NN⟩ := S
      simp only at HG HQk HNk
      obtain ⟨tx, htx⟩ : ∃ tx, gs l k = tx := ⟨_, rfl⟩
      rw [htx] at t0 HSz HSt
      clear htx
      have HOb : Hid (wr.heap[ob]? = some (.cells #[.map (some M), y] 52 (0, 0))) := box_out HB.out ho (by have := HNe.out; omega)
      obtain ⟨o0, o1, p0, p1⟩ := box2_cells HOb.out
      have hlk := HG.out.look2 tx HSz.out
      obtain ⟨E, hE⟩ : ∃ E, wr.heap.size = E := ⟨_, rfl⟩
      have hME : Hid (M < E) := by show M < E; rw [← hE]; exact HG.out.lt
      have hObE : Hid (ob < E) := by show ob < E; rw [← hE]; exact box_lt HOb.out
      have HEe : Hid (wr.heap.size = E) := hE
      cases hgt : gg tx with
      | none =>
        have HGt : Hid (gg tx = none) := hgt
        have HS1 : Hid (adL (g, N) (l.take (k + 1)) = (upG gg tx (some ((NN : Int), 1)), NN + 1)) := by
          show _ = _
          rw [HSt.out]
          unfold ad1
          rw [show (gg, NN).1 tx = none from HGt.out]
        rw [hgt] at hlk
        simp only [sv, Option.isSome] at hlk
        clear hgt
        obtain ⟨Wa, hWa⟩ : ∃ Wa, wr.alloc (.cells #[.int .i64 0, .int .i64 0] 71) = Wa := ⟨_, rfl⟩
        have ba : Below wr.heap.size wr Wa := by subst hWa; exact below_alloc _ _
        have HEa : Hid (Wa.heap[E]? = some (.cells #[.int .i64 0, .int .i64 0] 71 (0, 0))) := by subst hWa hE; exact al1 _ _
        obtain ⟨xa0, xa1, fa0, fa1⟩ := box2_cells HEa.out
        obtain ⟨W2, hW2⟩ : ∃ W2, (Wa.setCell ⟨E, 0, none⟩ (.int .i64 0)).setCell ⟨E, 1, none⟩ (.int .i64 0) = W2 := ⟨_, rfl⟩
        have HE2 : Hid (W2.heap[E]? = some (.cells #[.int .i64 0, .int .i64 0] 71 (0, 0))) := by subst hW2; exact box2_set HEa.out
        have oa : Out E (E + 1) Wa W2 := by subst hW2; exact ((Out.refl _ _ _).setCell (by omega) (by omega) _ _).setCell (by omega) (by omega) _ _
        have b2 : Below wr.heap.size wr W2 := ba.trans ((oa.below (by have := box_lt HEa.out; omega)).mono (by omega))
        have HO2 : Hid (W2.heap[ob]? = some (.cells #[.map (some M), y] 52 (0, 0))) := box_on HOb.out b2
        obtain ⟨x0, x1, f0, f1⟩ := box2_cells HE2.out
        obtain ⟨r0, r1, -, -⟩ := box2_cells HO2.out
        have hln := (HG.out.below b2).len 3
        obtain ⟨W3, hW3⟩ : ∃ W3, (W2.setCell ⟨E, 0, none⟩ (.int .i64 (NN : Int))).setCell ⟨E, 1, none⟩ (.int .i64 1) = W3 := ⟨_, rfl⟩
        have HE3 : Hid (W3.heap[E]? = some (.cells #[.int .i64 (NN : Int), .int .i64 1] 71 (0, 0))) := by subst hW3; exact box2_set HE2.out
        have o3 : Out E (E + 1) W2 W3 := by subst hW3; exact ((Out.refl _ _ _).setCell (by omega) (by omega) _ _).setCell (by omega) (by omega) _ _
        have HO3 : Hid (W3.heap[ob]? = some (.cells #[.map (some M), y] 52 (0, 0))) := box_out HO2.out o3 (by have := hObE.out; omega)
        have HG3 : Hid (GM W3 M (n + k) gg NN) := (HG.out.below b2).out o3 (.inl hME.out)
        have HB3 : Hid (Below wr.heap.size wr W3) := b2.trans ((o3.below (by have := box_lt HE2.out; omega)).mono (by omega))
        go_wp2_with fail
        have SB : Hid (∀ W, Below W3.heap.size W3 W → W.cell? ⟨ob, 0, none⟩ = some (.map (some M)) ∧ (W.cell? ⟨E, 0, none⟩ = some (.int .i64 (NN : Int)) ∧ W.cell? ⟨E, 1, none⟩ = some (.int .i64 1)) ∧ Below W3.heap.size W3 W) := fun W h => ⟨(box2_cells (box_on HO3.out h)).1, ⟨(box2_cells (box_on HE3.out h)).1, (box2_cells (box_on HE3.out h)).2.1⟩, h⟩
        refine wp_region_noPanic ?_
        refine wp_region_L (fun W => W.cell? ⟨ob, 0, none⟩ = some (.map (some M)) ∧ (W.cell? ⟨E, 0, none⟩ = some (.int .i64 (NN : Int)) ∧ W.cell? ⟨E, 1, none⟩ = some (.int .i64 1)) ∧ Below W3.heap.size W3 W) 6 7 (by kernel_rfl) rfl (SB.out _ (Below.drew (Below.refl _ _))) (fun hS0 => ?_)
        refine tkL (i := 0) (d := 35) (v := ?_) rfl rfl (by kernel_rfl) (by kernel_rfl) (by kernel_rfl) (by kernel_rfl) (fun _ _ _ h => h) (Or.inl ⟨by rfl, by intro wq hSq; obtain ⟨hq1, hq2, hq3⟩ := hSq; go_simp; try with_reducible rfl⟩) (by assumption) ?_
        simp only [List.setIfInBounds_toArray, List.set_cons_zero, List.set_cons_succ]
        refine tkL (i := 1) (d := 36) (v := ?_) rfl rfl (by kernel_rfl) (by kernel_rfl) (by kernel_rfl) (by kernel_rfl) (fun _ _ _ h => h) (Or.inl ⟨by rfl, by intro wq hSq; obtain ⟨hq1, hq2, hq3⟩ := hSq; go_simp; try with_reducible rfl⟩) (by assumption) ?_
        simp only [List.setIfInBounds_toArray, List.set_cons_zero, List.set_cons_succ]
        refine tkL (i := 2) (d := 37) (v := ?_) rfl rfl (by kernel_rfl) (by kernel_rfl) (by kernel_rfl) (by kernel_rfl) (fun _ _ _ h => h) (Or.inl ⟨by rfl, by intro wq hSq; obtain ⟨hq1, hq2, hq3⟩ := hSq; go_simp; try with_reducible rfl⟩) (by assumption) ?_
        simp only [List.setIfInBounds_toArray, List.set_cons_zero, List.set_cons_succ]
        refine tkL (i := 3) (d := 38) (v := ?_) rfl rfl (by kernel_rfl) (by kernel_rfl) (by kernel_rfl) (by kernel_rfl) (fun _ _ _ h => h) (Or.inl ⟨by rfl, by intro wq hSq; obtain ⟨hq1, hq2, hq3⟩ := hSq; go_simp; try with_reducible rfl⟩) (by assumption) ?_
        simp only [List.setIfInBounds_toArray, List.set_cons_zero, List.set_cons_succ]
        refine tkL (i := 4) (d := 39) (v := ?_) rfl rfl (by kernel_rfl) (by kernel_rfl) (by kernel_rfl) (by kernel_rfl) (fun _ _ _ h => h) (Or.inl ⟨by rfl, by intro wq hSq; obtain ⟨hq1, hq2, hq3⟩ := hSq; go_simp; try with_reducible rfl⟩) (by assumption) ?_
        simp only [List.setIfInBounds_toArray, List.set_cons_zero, List.set_cons_succ]
        refine tkL (i := 5) (d := 40) (v := ?_) rfl rfl (by kernel_rfl) (by kernel_rfl) (by kernel_rfl) (by kernel_rfl) (fun _ _ _ h => h) (Or.inl ⟨by rfl, by intro wq hSq; obtain ⟨hq1, ⟨hq2, hq4⟩, hq3⟩ := hSq; go_simp; try with_reducible rfl⟩) (by assumption) ?_
        simp only [List.setIfInBounds_toArray, List.set_cons_zero, List.set_cons_succ]
        refine lastL rfl (by kernel_rfl) (by kernel_rfl) (fun K hK => ?_)
        rw [if_pos (by rfl)]
        have hgm := HG3.out.below (Below.drew (Below.refl W3.heap.size W3))
        refine wp_gput _ _ _ _ rfl M (n + k) _ _ tx _ _ rfl hgm (by omega) HSz.out rfl rfl ?_
        intro w7 hG7 ht7
        refine hK.out _ _ (NoPanic.normal ?_)
        clear hK K
        have HS7 : Hid (GM w7 M (n + (k + 1)) (adL (g, N) (l.take (k + 1))).1 (adL (g, N) (l.take (k + 1))).2) := by
            rw [HS1.out]
            rw [HGt.out] at hG7
            exact hG7
        have O7 : Hid (Out M (M + 1) w w7) := ho.trans ((Out.of_below HB3.out).trans ((Out.of_below (Below.drew (Below.refl W3.heap.size W3))).trans (turned_out ht7)))
        clear hG7 ht7 hgm hS0 SB
        go_wp2
        go_roundw
        case rel => exact ⟨k + 1, by omega, by go_num, HS7.out, O7.out⟩
        case measure => simp [intOf]; omega
      | some pq =>
        obtain ⟨p, q⟩ := pq
        have HGt : Hid (gg tx = some (p, q)) := hgt
        have HS1 : Hid (adL (g, N) (l.take (k + 1)) = (upG gg tx (some (p, q + 1)), NN)) := by
          show _ = _
          rw [HSt.out]
          unfold ad1
          rw [show (gg, NN).1 tx = some (p, q) from HGt.out]
        obtain ⟨hq0, hq1⟩ := HQk.out tx p q hgt
        rw [hgt] at hlk
        simp only [sv, Option.isSome] at hlk
        clear hgt
        have hq2 : q ≤ 1000000 := by omega
        obtain ⟨W2, hW2⟩ : ∃ W2, wr.alloc (.cells #[.int .i64 p, .int .i64 q] 71) = W2 := ⟨_, rfl⟩
        have b2 : Below wr.heap.size wr W2 := by subst hW2; exact below_alloc _ _
        have HE2 : Hid (W2.heap[E]? = some (.cells #[.int .i64 p, .int .i64 q] 71 (0, 0))) := by subst hW2 hE; exact al1 _ _
        have HO2 : Hid (W2.heap[ob]? = some (.cells #[.map (some M), y] 52 (0, 0))) := box_on HOb.out b2
        obtain ⟨x0, x1, f0, f1⟩ := box2_cells HE2.out
        obtain ⟨r0, r1, -, -⟩ := box2_cells HO2.out
        obtain ⟨W3, hW3⟩ : ∃ W3, W2.setCell ⟨E, 1, none⟩ (.int .i64 (q + 1)) = W3 := ⟨_, rfl⟩
        have HE3 : Hid (W3.heap[E]? = some (.cells #[.int .i64 p, .int .i64 (q + 1)] 71 (0, 0))) := by subst hW3; exact block_set HE2.out
        have o3 : Out E (E + 1) W2 W3 := by subst hW3; exact (Out.refl _ _ _).setCell (by omega) (by omega) _ _
        have HO3 : Hid (W3.heap[ob]? = some (.cells #[.map (some M), y] 52 (0, 0))) := box_out HO2.out o3 (by have := hObE.out; omega)
        have HG3 : Hid (GM W3 M (n + k) gg NN) := (HG.out.below b2).out o3 (.inl hME.out)
        have HB3 : Hid (Below wr.heap.size wr W3) := b2.trans ((o3.below (by have := box_lt HE2.out; omega)).mono (by omega))
        go_wp2_with fail
        have SB : Hid (∀ W, Below W3.heap.size W3 W → W.cell? ⟨ob, 0, none⟩ = some (.map (some M)) ∧ (W.cell? ⟨E, 0, none⟩ = some (.int .i64 p) ∧ W.cell? ⟨E, 1, none⟩ = some (.int .i64 (q + 1))) ∧ Below W3.heap.size W3 W) := fun W h => ⟨(box2_cells (box_on HO3.out h)).1, ⟨(box2_cells (box_on HE3.out h)).1, (box2_cells (box_on HE3.out h)).2.1⟩, h⟩
        refine wp_region_noPanic ?_
        refine wp_region_L (fun W => W.cell? ⟨ob, 0, none⟩ = some (.map (some M)) ∧ (W.cell? ⟨E, 0, none⟩ = some (.int .i64 p) ∧ W.cell? ⟨E, 1, none⟩ = some (.int .i64 (q + 1))) ∧ Below W3.heap.size W3 W) 6 7 (by kernel_rfl) rfl (SB.out _ (Below.drew (Below.refl _ _))) (fun hS0 => ?_)
        refine tkL (i := 0) (d := 35) (v := ?_) rfl rfl (by kernel_rfl) (by kernel_rfl) (by kernel_rfl) (by kernel_rfl) (fun _ _ _ h => h) (Or.inl ⟨by rfl, by intro wq hSq; obtain ⟨hq1, hq2, hq3⟩ := hSq; go_simp; try with_reducible rfl⟩) (by assumption) ?_
        simp only [List.setIfInBounds_toArray, List.set_cons_zero, List.set_cons_succ]
        refine tkL (i := 1) (d := 36) (v := ?_) rfl rfl (by kernel_rfl) (by kernel_rfl) (by kernel_rfl) (by kernel_rfl) (fun _ _ _ h => h) (Or.inl ⟨by rfl, by intro wq hSq; obtain ⟨hq1, hq2, hq3⟩ := hSq; go_simp; try with_reducible rfl⟩) (by assumption) ?_
        simp only [List.setIfInBounds_toArray, List.set_cons_zero, List.set_cons_succ]
        refine tkL (i := 2) (d := 37) (v := ?_) rfl rfl (by kernel_rfl) (by kernel_rfl) (by kernel_rfl) (by kernel_rfl) (fun _ _ _ h => h) (Or.inl ⟨by rfl, by intro wq hSq; obtain ⟨hq1, hq2, hq3⟩ := hSq; go_simp; try with_reducible rfl⟩) (by assumption) ?_
        simp only [List.setIfInBounds_toArray, List.set_cons_zero, List.set_cons_succ]
        refine tkL (i := 3) (d := 38) (v := ?_) rfl rfl (by kernel_rfl) (by kernel_rfl) (by kernel_rfl) (by kernel_rfl) (fun _ _ _ h => h) (Or.inl ⟨by rfl, by intro wq hSq; obtain ⟨hq1, hq2, hq3⟩ := hSq; go_simp; try with_reducible rfl⟩) (by assumption) ?_
        simp only [List.setIfInBounds_toArray, List.set_cons_zero, List.set_cons_succ]
        refine tkL (i := 4) (d := 39) (v := ?_) rfl rfl (by kernel_rfl) (by kernel_rfl) (by kernel_rfl) (by kernel_rfl) (fun _ _ _ h => h) (Or.inl ⟨by rfl, by intro wq hSq; obtain ⟨hq1, hq2, hq3⟩ := hSq; go_simp; try with_reducible rfl⟩) (by assumption) ?_
        simp only [List.setIfInBounds_toArray, List.set_cons_zero, List.set_cons_succ]
        refine tkL (i := 5) (d := 40) (v := ?_) rfl rfl (by kernel_rfl) (by kernel_rfl) (by kernel_rfl) (by kernel_rfl) (fun _ _ _ h => h) (Or.inl ⟨by rfl, by intro wq hSq; obtain ⟨hq1, ⟨hq2, hq4⟩, hq3⟩ := hSq; go_simp; try with_reducible rfl⟩) (by assumption) ?_
        simp only [List.setIfInBounds_toArray, List.set_cons_zero, List.set_cons_succ]
        refine lastL rfl (by kernel_rfl) (by kernel_rfl) (fun K hK => ?_)
        rw [if_pos (by rfl)]
        have hgm := HG3.out.below (Below.drew (Below.refl W3.heap.size W3))
        refine wp_gput _ _ _ _ rfl M (n + k) _ _ tx _ _ rfl hgm (by omega) HSz.out rfl rfl ?_
        intro w7 hG7 ht7
        refine hK.out _ _ (NoPanic.normal ?_)
        clear hK K
        have HS7 : Hid (GM w7 M (n + (k + 1)) (adL (g, N) (l.take (k + 1))).1 (adL (g, N) (l.take (k + 1))).2) := by
            rw [HS1.out]
            rw [HGt.out] at hG7
            exact hG7
        have O7 : Hid (Out M (M + 1) w w7) := ho.trans ((Out.of_below HB3.out).trans ((Out.of_below (Below.drew (Below.refl W3.heap.size W3))).trans (turned_out ht7)))
        clear hG7 ht7 hgm hS0 SB
        go_wp2
        go_roundw
        case rel => exact ⟨k + 1, by omega, by go_num, HS7.out, O7.out⟩
        case measure => simp [intOf]; omega
    · have hkm : k = m := by omega
      subst hkm
      have hfin : l.take k = l := List.take_of_length_le (by rw [Hm.out]; exact Nat.le_refl _)
      have HGf : Hid (GM wr M (n + k) (adL (g, N) l).1 (adL (g, N) l).2) := by have := HG.out; rwa [hfin] at this
      clear hfin
      have HOb : Hid (wr.heap[ob]? = some (.cells #[.map (some M), y] 52 (0, 0))) := box_out HB.out ho (by have := HNe.out; omega)
      obtain ⟨vs, hown, hne, hrows⟩ := HF.out
      have HRows : Hid (∀ i, i < F.length → ∃ v, vs[i]? = some v ∧ TRow w lo ob M y.ownBlock v (gt F i)) := hrows
      have HYne : Hid (∀ k, y.ownBlock = some k → k ≠ ob ∧ k ≠ M) := hne
      have hvl : Hid (vs.length = F.length) := by show _ = _; have := hown.1; simpa using this
      have ownr : wr.ownsRow lo 72 1 y F.length vs := hown.kept (row := some M) ⟨ho.os, ho.tape, ho.output, ho.size, fun j hj hjr => ho.block j hj (by by_cases e : j = M; subst e; exact absurd rfl hjr; omega)⟩ (by
        rcases hown.2 with ⟨rfl, -⟩ | ⟨gb, cap, cu, rfl, hgb, -⟩
        · exact .inl rfl
        · refine .inr ?_
          have := (hne gb (by simp [Value.ownBlock])).2
          simp [Value.ownBlock]
          exact this)
      have hb0 : Below lo w wr := (ho.below (Nat.le_of_lt hGM0.out.lt)).mono h2
      obtain ⟨W6, hW6⟩ : ∃ W6, wr.alloc (.cells #[.slice a k c] 72) = W6 := ⟨_, rfl⟩
      have b6 : Below wr.heap.size wr W6 := by subst hW6; exact below_alloc _ _
      have own6 : W6.ownsRow lo 72 1 y F.length vs := owns_below ownr b6
      have hnew : ∀ j u, [Value.slice a k c][j]? = some u → W6.cell? ((⟨wr.heap.size, 0, none⟩ : Addr).add j) = some u := by subst hW6; exact new_one wr (.slice a k c) 72
      have HO6 : Hid (W6.heap[ob]? = some (.cells #[.map (some M), y] 52 (0, 0))) := box_on HOb.out b6
      have hb6 : Below lo w W6 := hb0.trans (b6.mono (Nat.le_trans hz ho.size))
      have z6 : lo ≤ W6.heap.size := Nat.le_trans hz hb6.size
      obtain ⟨o0, o1, -, -⟩ := box2_cells HOb.out
      clear ownr hown hne hrows
      go_wp2_with (at_builtin; refine wpList_append_at rfl _ _ 50 rfl lo 72 _ 1 24 Try.underlying50 infoS rfl (by decide) y F.length vs rfl own6 ⟨wr.heap.size, 0, none⟩ 1 1 [.slice a k c] rfl rfl hnew (by simp [Value.oneCell']) (by omega) (by decide) z6 ?_; intro v8 w8 own8 gr8 at8; have HO8 : Hid (w8.heap[ob]? = some (.cells #[.map (some M), y] 52 (0, 0))) := (gr8.block ob (box_lt HO6.out) (fun e => (HYne.out ob e.symm).1 rfl)).trans HO6.out; obtain ⟨t0, t1, f0, f1⟩ := box2_cells HO8.out; have GR8 : Hid (W6.grownBy w8 y.ownBlock) := gr8; have AT8 : Hid (v8.ownBlock = y.ownBlock ∨ v8.ownBlock = some W6.heap.size) := at8; have OW8 : Hid (w8.ownsRow lo 72 1 v8 (F.length + 1) (vs ++ [.slice a k c])) := own8; clear gr8 at8 own8; obtain ⟨x8, c8, e8⟩ := owns_form OW8.out; subst e8)
      go_end0
      have hg8 := GR8.out
      have hb8 : Below lo w w8 := hb6.trans (Grown.below hg8 z6 (owns_ge own6))
      have hMs : M < W6.heap.size := Nat.lt_of_lt_of_le hGM0.out.lt (Nat.le_trans ho.size b6.size)
      have hObs : ob < W6.heap.size := box_lt HO6.out
      have h8ne : ∀ k, (Value.slice x8 (F.length + 1) c8).ownBlock = some k → k ≠ ob ∧ k ≠ M := fun j hj => by
        rcases AT8.out with e | e
        · exact HYne.out j (by rw [← e]; exact hj)
        · rw [e] at hj
          simp at hj
          omega
      have hsame : ∀ b, b < w.heap.size → b ≠ ob → b ≠ M → some b ≠ y.ownBlock → (w8.setCell ⟨ob, 1, none⟩ (Value.slice x8 (F.length + 1) c8)).heap[b]? = w.heap[b]? := fun b hb e1 e2 e3 => by
        rw [(out_setCell w8 ob 1 (Value.slice x8 (F.length + 1) c8)).block b (by have := hb8.size; omega) (by omega), hg8.block b (by have := hb6.size; omega) e3, b6.block b (by have := ho.size; omega), ho.block b hb (by omega)]
      have hre : ∀ {v : Value} {l : List ByteArray}, TRow w lo ob M y.ownBlock v l → TRow (w8.setCell ⟨ob, 1, none⟩ (Value.slice x8 (F.length + 1) c8)) lo ob M (Value.slice x8 (F.length + 1) c8).ownBlock v l := fun {v l} h => by
        obtain ⟨a1, c1, e1, hc1, hr⟩ := h.same hsame
        obtain ⟨a2, c2, e2, -, hr2⟩ := h
        refine ⟨a1, c1, e1, hc1, fun hn => ?_⟩
        obtain ⟨b, off, g1, g2, g3, g4, g5, g6⟩ := hr hn
        obtain ⟨b', off', g1', -, -, -, -, g6'⟩ := hr2 hn
        have hbw : b < w.heap.size := by
          have := lt_of_cell (g6' 0 (by omega))
          rw [e1] at e2
          simp only [Value.slice.injEq] at e2
          rw [g1, g1'] at e2
          have e3 := e2.1
          simp at e3
          omega
        refine ⟨b, off, g1, g2, g3, g4, fun e => ?_, g6⟩
        rcases AT8.out with q | q
        · exact g5 (by rw [← q]; exact e)
        · rw [q] at e
          simp at e
          have := hb6.size
          omega
      refine ⟨rfl, hb8.setCell (by simp; omega) _, (Value.slice x8 (F.length + 1) c8), block_set HO8.out, ?_, vs ++ [.slice a k c], ?_, h8ne, fun i hi => ?_⟩
      · exact ((HGf.out.below b6).kept hg8 (fun e => (HYne.out M e.symm).2 rfl)).out (out_setCell w8 ob 1 (Value.slice x8 (F.length + 1) c8)) (by have := HNe.out; omega)
      · rw [List.length_append, List.length_singleton]
        refine OW8.out.kept (row := some ob) ⟨rfl, rfl, rfl, (out_setCell w8 ob 1 (Value.slice x8 (F.length + 1) c8)).size, fun j hj hjr => (out_setCell w8 ob 1 (Value.slice x8 (F.length + 1) c8)).block j hj (by by_cases e : j = ob; subst e; exact absurd rfl hjr; omega)⟩ ?_
        cases hv : (Value.slice x8 (F.length + 1) c8).ownBlock with
        | none => exact .inl rfl
        | some z => exact .inr (by have := (h8ne z hv).1; simp; exact this)
      · rw [List.length_append, List.length_singleton] at hi
        by_cases e : i = F.length
        · subst e
          refine ⟨.slice a k c, ?_, ?_⟩
          · have := hvl.out
            rw [← this]
            simp
          · rw [gt_snoc]
            have := hre HT.out
            rwa [Hm.out] at this
        · obtain ⟨v, hv1, hv2⟩ := HRows.out i (by omega)
          refine ⟨v, ?_, ?_⟩
          · rw [List.getElem?_append_left (by have := hvl.out; omega)]
            exact hv1
          · rw [gt_snoc_lt (by omega)]
            exact hre hv2
end Go.Proofs.Ytfphffbclpmobaa
