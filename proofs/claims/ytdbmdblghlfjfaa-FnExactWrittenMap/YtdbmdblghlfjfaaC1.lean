import Derived.Test.YtdbmdblghlfjfaaM1
/- spec.l9Cut. -/
namespace Go.Proofs.Ytdbmdblghlfjfaa
open Go.ChangeShapes Go.WideShapes Go.ChangeAt Go.RowKit
set_option linter.unusedVariables false
open Mp

attribute [local go_sem] Oper.semAt_some

theorem wpList_append_at {P : Program} {w : World} {ops : Array Oper} {rest : List Oper} {o : Oper} {a : Act} {Q : Exit → Act → World → Prop} (hgd : o.guard = none) (s x : Operand) (t : TypeId)
    (ho : o.op = .call { callee := .builtin .append, args := #[s, x], argTypes := #[t, t] })
    (base : Nat) (e : TypeId) (z : Value) (size bytes : Nat) (ht : P.underlying t = some (.slice e)) (hinfo : (P.info? e).map (fun i => (i.zero, i.size, i.bytes)) = some (some z, size, bytes)) (hzs : z.cells.size = size) (hsz : 0 < size)
    (v : Value) (n : Nat) (xs : List Value) (hs : a.eval s = v) (hown : w.ownsRow base e size v n xs)
    (ad : Addr) (m c : Nat) (news : List Value) (hx : a.eval x = .slice (some ad) m c) (hl : news.length = m * size) (hnews : ∀ j u, news[j]? = some u → w.cell? (ad.add j) = some u) (h1 : ∀ u ∈ news, u.oneCell' = true)
    (h63 : n + m ≤ 1000000000) (hbytes : bytes ≤ 100000) (hbase : base ≤ w.heap.size)
    (h : ∀ v' w', w'.ownsRow base e size v' (n + m) (xs ++ news) → w.grownBy w' v.ownBlock → (v'.ownBlock = v.ownBlock ∨ v'.ownBlock = some w.heap.size) → wpList P ops Q rest (a.put o.dst v') w') : wpList P ops Q (o :: rest) a w := by
  refine wpList_plain hgd fun K hK => ?_
  obtain ⟨i, hi, hz0, hz1, hz2⟩ := info_parts hinfo
  have hb2 : (n + m) * bytes ≤ 1000000000 * 100000 := Nat.mul_le_mul h63 hbytes
  obtain ⟨v', w', hrun, r1, r2, -, r4⟩ := run_append_own_at (P := P) w base t o.type e i z size bytes ht hi hz0 hz1 hz2 hzs hsz v n xs hown ad m c news hl hnews h1 (by unfold maxLen; omega) (by omega) hbase
  unfold Oper.wp
  simp [execOp, ho, resolve, invoke, builtin, hs, hx, hrun, Result.andThen]
  exact hK _ _ (h v' w' r1 r2 r4)
/-- Two rows that grow beside a box. -/
structure St (W : World) (Z E : Nat) (bx : Array Value) (vo vi : Value) (lo li : List Pc) : Prop where
  o : OwnP W Z vo lo
  i : OwnP W Z vi li
  dj : ∀ b, vo.ownBlock = some b → vi.ownBlock = some b → False
  eo : ∀ b, vo.ownBlock = some b → b ≠ E
  ei : ∀ b, vi.ownBlock = some b → b ≠ E
  box : W.heap[E]? = some (.cells bx 40 (0, 0))
  z : Z ≤ W.heap.size
theorem own_ltP {W : World} {Z : Nat} {v : Value} {l : List Pc} (h : OwnP W Z v l) : ∀ b, v.ownBlock = some b → b < W.heap.size := by
  intro b hb
  rcases h.2 with ⟨rfl, _⟩ | ⟨g, cap, cur, rfl, _, hg, _⟩
  · simp [Value.ownBlock] at hb
  · simp [Value.ownBlock] at hb
    subst hb
    exact box_lt hg
theorem St.alo {W : World} {Z E : Nat} {bx : Array Value} {vo vi : Value} {lo li : List Pc} (h : St W Z E bx vo vi lo li) (o : Obj) : OwnP (W.alloc o) Z vo lo ∧ OwnP (W.alloc o) Z vi li ∧ Z ≤ (W.alloc o).heap.size :=
  ⟨owns_below h.o (below_alloc _ _), owns_below h.i (below_alloc _ _), by have := h.z; simp; omega⟩
theorem St.out {W w' : World} {Z E : Nat} {bx : Array Value} {vo vi v' : Value} {lo li : List Pc} {q : Pc} {ob : Obj} (h : St W Z E bx vo vi lo li) (h1 : w'.ownsRow Z 40 4 v' (lo.length + 1) (cpp lo ++ cpp [q])) (h2 : (W.alloc ob).grownBy w' vo.ownBlock) (h3 : v'.ownBlock = vo.ownBlock ∨ v'.ownBlock = some (W.alloc ob).heap.size) :
    St w' Z E bx v' vi (lo ++ [q]) li ∧ Below Z W w' := by
  have g := grown_alloc h2
  have hE := box_lt h.box
  have hsz : (W.alloc ob).heap.size = W.heap.size + 1 := by simp
  have hi := own_ltP h.i
  refine ⟨⟨?_, h.i.kept g ?_, ?_, ?_, h.ei, ?_, Nat.le_trans h.z g.size⟩, Grown.below g h.z (owns_ge h.o)⟩
  · show w'.ownsRow Z 40 4 v' (lo ++ [q]).length (cpp (lo ++ [q]))
    rw [List.length_append, cpp_app]
    exact h1
  · cases hv : vi.ownBlock with
    | none => exact .inl rfl
    | some b => exact .inr (fun e => h.dj b e.symm hv)
  · intro b hb hb'
    rcases h3 with h3 | h3
    · rw [h3] at hb; exact h.dj b hb hb'
    · rw [h3, hsz] at hb
      have := hi b hb'
      simp at hb
      omega
  · intro b hb
    rcases h3 with h3 | h3
    · rw [h3] at hb; exact h.eo b hb
    · rw [h3, hsz] at hb
      simp at hb
      omega
  · exact (g.block E hE (fun e => h.eo E e.symm rfl)).trans h.box
theorem St.swap {W : World} {Z E : Nat} {bx : Array Value} {vo vi : Value} {lo li : List Pc} (h : St W Z E bx vo vi lo li) : St W Z E bx vi vo li lo := ⟨h.i, h.o, fun b h1 h2 => h.dj b h2 h1, h.ei, h.eo, h.box, h.z⟩
theorem St.inn {W w' : World} {Z E : Nat} {bx : Array Value} {vo vi v' : Value} {lo li : List Pc} {q : Pc} {ob : Obj} (h : St W Z E bx vo vi lo li) (h1 : w'.ownsRow Z 40 4 v' (li.length + 1) (cpp li ++ cpp [q])) (h2 : (W.alloc ob).grownBy w' vi.ownBlock) (h3 : v'.ownBlock = vi.ownBlock ∨ v'.ownBlock = some (W.alloc ob).heap.size) :
    St w' Z E bx vo v' lo (li ++ [q]) ∧ Below Z W w' := by
  obtain ⟨s, b⟩ := h.swap.out h1 h2 h3
  exact ⟨s.swap, b⟩
theorem outL_snoc {f e : Int} {l : List Pc} {k : Nat} (h : k < l.length) : outL f e (l.take (k + 1)) = outL f e (l.take k) ++ outP f e (gp l k) ∧ innL f e (l.take (k + 1)) = innL f e (l.take k) ++ innP f e (gp l k) := by
  rw [take_gp h]
  simp [outL, innL]

set_option maxRecDepth 20000 in
set_option maxHeartbeats 8000000 in
theorem l9Cut_any (a : Option Addr) (c : Nat) (l : List Pc) (f d : Int) (w : World) (hl : l.length ≤ 40) (hp : ∀ p, p ∈ l → pok p) (hf : 0 ≤ f ∧ 0 ≤ d ∧ d ≤ 200 - f) (ha : Pcs w a l) :
    Calls Try.prog 61 #[.slice a l.length c, .int .i64 f, .int .i64 d] w fun e w' => Below w.heap.size w w' ∧ ∃ v1 v2, e = .returned (.tuple #[v1, v2]) ∧ OwnP w' w.heap.size v1 (outL f (f + d) l) ∧ OwnP w' w.heap.size v2 (innL f (f + d) l) := by
  have HOk : Hid (∀ k, k < l.length → pok (gp l k)) := fun k hk => hp _ (gp_mem hk)
  have HS : Hid (∀ k, k < l.length → outL f (f + d) (l.take (k + 1)) = outL f (f + d) (l.take k) ++ outP f (f + d) (gp l k) ∧ innL f (f + d) (l.take (k + 1)) = innL f (f + d) (l.take k) ++ innP f (f + d) (gp l k)) := fun k hk => outL_snoc hk
  have HLen : Hid (∀ k, (outL f (f + d) (l.take k)).length ≤ 900 ∧ (innL f (f + d) (l.take k)).length ≤ 900) := fun k => by
    have h1 := len_outL (f := f) (e := f + d) (l.take k)
    have h2 := len_innL (f := f) (e := f + d) (l.take k)
    have h3 : (l.take k).length ≤ 40 := by simp; omega
    exact ⟨by omega, by omega⟩
  have HE : Hid (outL f (f + d) (l.take l.length) = outL f (f + d) l ∧ innL f (f + d) (l.take l.length) = innL f (f + d) l) := by show _ ∧ _; rw [List.take_length]; exact ⟨rfl, rfl⟩
  have H0 : Hid (outL f (f + d) (l.take 0) = [] ∧ innL f (f + d) (l.take 0) = []) := ⟨rfl, rfl⟩
  obtain ⟨O, hO⟩ : ∃ O : Nat → List Pc, (fun k => outL f (f + d) (l.take k)) = O := ⟨_, rfl⟩
  obtain ⟨I, hI⟩ : ∃ I : Nat → List Pc, (fun k => innL f (f + d) (l.take k)) = I := ⟨_, rfl⟩
  have hO' : ∀ k, outL f (f + d) (l.take k) = O k := fun k => by rw [← hO]
  have hI' : ∀ k, innL f (f + d) (l.take k) = I k := fun k => by rw [← hI]
  simp only [hO', hI'] at HS HLen HE H0
  clear hO hI hO' hI' hp
  generalize outL f (f + d) l = RO at *
  generalize innL f (f + d) l = RI at *
  obtain ⟨e, he⟩ : ∃ e, f + d = e := ⟨_, rfl⟩
  have hfe : f ≤ e := by omega
  have he2 : e ≤ 200 := by omega
  have hf0 := hf.1
  rw [he] at HS
  have ewe : IntKind.i64.wrap (f + d) = f + d := wrapI (by omega) (by omega)
  unfold Pcs at ha
  generalize gp l = g at *
  generalize l.length = n at *
  obtain ⟨Z, hZ⟩ : ∃ Z, w.heap.size = Z := ⟨_, rfl⟩
  go_enter Try.func61, Try.ntmps61
  go_wp2
  have HHe : Hid (f + d = e) := he
  clear he ewe hf
  go_loopw [22, 8, 9] (fun i o p wr => ∃ (k : Nat) (vo vi : Value), k ≤ n ∧ i = .int .i64 k ∧ vo = o ∧ vi = p ∧ Hid (OwnP wr Z vo (O k) ∧ OwnP wr Z vi (I k) ∧ (∀ b, vo.ownBlock = some b → vi.ownBlock = some b → False)) ∧ Below Z w wr ∧ Z ≤ wr.heap.size) (fun i _ _ _ => n - (intOf i).toNat)
  case atStart => exact ⟨0, _, _, Nat.zero_le _, rfl, rfl, rfl, ⟨by rw [H0.out.1]; exact OwnP.nil _ _, by rw [H0.out.2]; exact OwnP.nil _ _, fun b h => by simp [Value.ownBlock] at h⟩, Below.refl _ _, by omega⟩
  case round =>
    obtain ⟨k, vo, vi, hk, rfl, rfl, rfl, HO, hb, hz⟩ := hrel
    have hbW : Below w.heap.size w wr := hZ ▸ hb
    by_cases hlt : k < n
    · obtain ⟨bb, off, rfl, hcell⟩ := (ha.below hbW) (by omega)
      obtain ⟨k0, k1, k2, k3⟩ := hcell k hlt
      clear hcell
      have hpk := HOk.out k hlt
      have hst := HS.out k hlt
      have hln := HLen.out k
      unfold pok at hpk
      generalize g k = x at *
      generalize O k = lo at *
      generalize I k = li at *
      obtain ⟨pf, pn, pa, pz⟩ := x
      simp only at hpk k0 k1 k2 k3
      obtain ⟨W1, hW1⟩ : ∃ W1, wr.alloc (.cells #[.int .i64 pf, .int .i64 pn, .int .i64 pa, .bool pz] 40) = W1 := ⟨_, rfl⟩
      obtain ⟨E, hE⟩ : ∃ E, wr.heap.size = E := ⟨_, rfl⟩
      have b1 : Below wr.heap.size wr W1 := by subst hW1; exact below_alloc _ _
      have A1 : W1.heap[E]? = some (.cells #[.int .i64 pf, .int .i64 pn, .int .i64 pa, .bool pz] 40 (0, 0)) := by subst hW1 hE; exact al1 _ _
      have S0 : Hid (St W1 Z E #[.int .i64 pf, .int .i64 pn, .int .i64 pa, .bool pz] vo vi lo li) := ⟨owns_below HO.out.1 b1, owns_below HO.out.2.1 b1, HO.out.2.2, fun b hb => by have := own_ltP HO.out.1 b hb; omega, fun b hb => by have := own_ltP HO.out.2.1 b hb; omega, A1, Nat.le_trans hz b1.size⟩
      obtain ⟨e0, e1, e2, e3⟩ := box4_cells A1
      have g1 : Below Z w W1 := hb.trans (b1.mono hz)
      have Hst : Hid _ := hst
      obtain ⟨hlo, hli⟩ := hln
      have ev1 : IntKind.i64.wrap (pf + pn) = pf + pn := wrapI (by omega) (by omega)
      clear A1 HO hst
      by_cases hA : pf < f
      · by_cases hB : e < pf + pn
        · by_cases hC : e ≤ f
          · have hst2 : O (k + 1) = lo ++ [⟨pf, pn, pa, pz⟩] ∧ I (k + 1) = li := by
              refine ⟨?_, ?_⟩
              · rw [Hst.out.1]
                unfold outP loP hiP
                simp only
                rw [if_pos hA, if_pos hB, if_pos hC]
                all_goals simp
              · rw [Hst.out.2]
                unfold innP loP hiP
                simp only
                rw [if_pos hA, if_pos hB, if_pos hC, List.append_nil]
            have HST : Hid _ := hst2
            clear hst2 Hst
            go_wp2_with (at_builtin; refine wpList_append_at rfl _ _ 27 rfl Z 40 _ 4 32 Try.underlying27 info40 rfl (by decide) vo (lo).length (cpp (lo)) rfl ((S0.out.alo (.cells #[.int .i64 (pf), .int .i64 (pn), .int .i64 (pa), .bool pz] 40)).1) ⟨W1.heap.size, 0, none⟩ 1 1 (cpp [(⟨pf, pn, pa, pz⟩ : Pc)]) rfl rfl (srcP_cells (p := (⟨pf, pn, pa, pz⟩ : Pc)) (al1 W1 _)) (cpp_one _) (by simp; omega) (by decide) ((S0.out.alo (.cells #[.int .i64 (pf), .int .i64 (pn), .int .i64 (pa), .bool pz] 40)).2.2) ?_; intro v1 x1 o1 r1 a1; obtain ⟨T1, B1⟩ := St.out (q := (⟨pf, pn, pa, pz⟩ : Pc)) S0.out o1 r1 a1; have S1 : Hid _ := T1; obtain ⟨m10, m11, m12, m13⟩ := box4_cells T1.box; clear T1 o1 r1 a1)
            go_roundw
            case rel => exact ⟨k + 1, _, _, by omega, by go_num, rfl, rfl, ⟨by rw [HST.out.1]; exact S1.out.o, by rw [HST.out.2]; exact S1.out.i, S1.out.dj⟩, (g1).trans B1, S1.out.z⟩
            case measure => simp [intOf]; omega
          · have hst2 : O (k + 1) = lo ++ [⟨pf, f - pf, pa, pz⟩] ++ [⟨e, pf + pn - e, pa + e - pf, pz⟩] ∧ I (k + 1) = li ++ [⟨f, e - f, pa + f - pf, pz⟩] := by
              refine ⟨?_, ?_⟩
              · rw [Hst.out.1]
                unfold outP loP hiP
                simp only
                rw [if_pos hA, if_pos hB, if_neg hC, if_pos hA, if_pos hB]
                all_goals simp
              · rw [Hst.out.2]
                unfold innP loP hiP
                simp only
                rw [if_pos hA, if_pos hB, if_neg hC]
            have HST : Hid _ := hst2
            clear hst2 Hst
            have ew1 : IntKind.i64.wrap (f - pf) = f - pf := wrapI (by omega) (by omega)
            have ew2 : IntKind.i64.wrap (e - f) = e - f := wrapI (by omega) (by omega)
            have ew3 : IntKind.i64.wrap (pa + f) = pa + f := wrapI (by omega) (by omega)
            have ew4 : IntKind.i64.wrap (pa + f - pf) = pa + f - pf := wrapI (by omega) (by omega)
            have ew5 : IntKind.i64.wrap (pf + pn) = pf + pn := wrapI (by omega) (by omega)
            have ew6 : IntKind.i64.wrap (pf + pn - e) = pf + pn - e := wrapI (by omega) (by omega)
            have ew7 : IntKind.i64.wrap (pa + e) = pa + e := wrapI (by omega) (by omega)
            have ew8 : IntKind.i64.wrap (pa + e - pf) = pa + e - pf := wrapI (by omega) (by omega)
            go_wp2_with (first | (at_builtin; refine wpList_append_at rfl _ _ 27 rfl Z 40 _ 4 32 Try.underlying27 info40 rfl (by decide) vo (lo).length (cpp (lo)) rfl ((S0.out.alo (.cells #[.int .i64 (pf), .int .i64 (f - pf), .int .i64 (pa), .bool pz] 40)).1) ⟨W1.heap.size, 0, none⟩ 1 1 (cpp [(⟨pf, f - pf, pa, pz⟩ : Pc)]) rfl rfl (srcP_cells (p := (⟨pf, f - pf, pa, pz⟩ : Pc)) (al1 W1 _)) (cpp_one _) (by simp; omega) (by decide) ((S0.out.alo (.cells #[.int .i64 (pf), .int .i64 (f - pf), .int .i64 (pa), .bool pz] 40)).2.2) ?_; intro v1 x1 o1 r1 a1; obtain ⟨T1, B1⟩ := St.out (q := (⟨pf, f - pf, pa, pz⟩ : Pc)) S0.out o1 r1 a1; have S1 : Hid _ := T1; obtain ⟨m10, m11, m12, m13⟩ := box4_cells T1.box; clear T1 o1 r1 a1) | (at_builtin; refine wpList_append_at rfl _ _ 27 rfl Z 40 _ 4 32 Try.underlying27 info40 rfl (by decide) vi (li).length (cpp (li)) rfl ((S1.out.alo (.cells #[.int .i64 (f), .int .i64 (e - f), .int .i64 (pa + f - pf), .bool pz] 40)).2.1) ⟨x1.heap.size, 0, none⟩ 1 1 (cpp [(⟨f, e - f, pa + f - pf, pz⟩ : Pc)]) rfl rfl (srcP_cells (p := (⟨f, e - f, pa + f - pf, pz⟩ : Pc)) (al1 x1 _)) (cpp_one _) (by simp; omega) (by decide) ((S1.out.alo (.cells #[.int .i64 (f), .int .i64 (e - f), .int .i64 (pa + f - pf), .bool pz] 40)).2.2) ?_; intro v2 x2 o2 r2 a2; obtain ⟨T2, B2⟩ := St.inn (q := (⟨f, e - f, pa + f - pf, pz⟩ : Pc)) S1.out o2 r2 a2; have S2 : Hid _ := T2; obtain ⟨m20, m21, m22, m23⟩ := box4_cells T2.box; clear T2 o2 r2 a2) | (at_builtin; refine wpList_append_at rfl _ _ 27 rfl Z 40 _ 4 32 Try.underlying27 info40 rfl (by decide) v1 (lo ++ [(⟨pf, f - pf, pa, pz⟩ : Pc)]).length (cpp (lo ++ [(⟨pf, f - pf, pa, pz⟩ : Pc)])) rfl ((S2.out.alo (.cells #[.int .i64 (e), .int .i64 (pf + pn - e), .int .i64 (pa + e - pf), .bool pz] 40)).1) ⟨x2.heap.size, 0, none⟩ 1 1 (cpp [(⟨e, pf + pn - e, pa + e - pf, pz⟩ : Pc)]) rfl rfl (srcP_cells (p := (⟨e, pf + pn - e, pa + e - pf, pz⟩ : Pc)) (al1 x2 _)) (cpp_one _) (by simp; omega) (by decide) ((S2.out.alo (.cells #[.int .i64 (e), .int .i64 (pf + pn - e), .int .i64 (pa + e - pf), .bool pz] 40)).2.2) ?_; intro v3 x3 o3 r3 a3; obtain ⟨T3, B3⟩ := St.out (q := (⟨e, pf + pn - e, pa + e - pf, pz⟩ : Pc)) S2.out o3 r3 a3; have S3 : Hid _ := T3; obtain ⟨m30, m31, m32, m33⟩ := box4_cells T3.box; clear T3 o3 r3 a3))
            go_roundw
            case rel => exact ⟨k + 1, _, _, by omega, by go_num, rfl, rfl, ⟨by rw [HST.out.1]; exact S3.out.o, by rw [HST.out.2]; exact S3.out.i, S3.out.dj⟩, (((g1).trans B1).trans B2).trans B3, S3.out.z⟩
            case measure => simp [intOf]; omega
        · by_cases hC : pf + pn ≤ f
          · have hst2 : O (k + 1) = lo ++ [⟨pf, pn, pa, pz⟩] ∧ I (k + 1) = li := by
              refine ⟨?_, ?_⟩
              · rw [Hst.out.1]
                unfold outP loP hiP
                simp only
                rw [if_pos hA, if_neg hB, if_pos hC]
                all_goals simp
              · rw [Hst.out.2]
                unfold innP loP hiP
                simp only
                rw [if_pos hA, if_neg hB, if_pos hC, List.append_nil]
            have HST : Hid _ := hst2
            clear hst2 Hst
            go_wp2_with (at_builtin; refine wpList_append_at rfl _ _ 27 rfl Z 40 _ 4 32 Try.underlying27 info40 rfl (by decide) vo (lo).length (cpp (lo)) rfl ((S0.out.alo (.cells #[.int .i64 (pf), .int .i64 (pn), .int .i64 (pa), .bool pz] 40)).1) ⟨W1.heap.size, 0, none⟩ 1 1 (cpp [(⟨pf, pn, pa, pz⟩ : Pc)]) rfl rfl (srcP_cells (p := (⟨pf, pn, pa, pz⟩ : Pc)) (al1 W1 _)) (cpp_one _) (by simp; omega) (by decide) ((S0.out.alo (.cells #[.int .i64 (pf), .int .i64 (pn), .int .i64 (pa), .bool pz] 40)).2.2) ?_; intro v1 x1 o1 r1 a1; obtain ⟨T1, B1⟩ := St.out (q := (⟨pf, pn, pa, pz⟩ : Pc)) S0.out o1 r1 a1; have S1 : Hid _ := T1; obtain ⟨m10, m11, m12, m13⟩ := box4_cells T1.box; clear T1 o1 r1 a1)
            go_roundw
            case rel => exact ⟨k + 1, _, _, by omega, by go_num, rfl, rfl, ⟨by rw [HST.out.1]; exact S1.out.o, by rw [HST.out.2]; exact S1.out.i, S1.out.dj⟩, (g1).trans B1, S1.out.z⟩
            case measure => simp [intOf]; omega
          · have hst2 : O (k + 1) = lo ++ [⟨pf, f - pf, pa, pz⟩] ∧ I (k + 1) = li ++ [⟨f, pf + pn - f, pa + f - pf, pz⟩] := by
              refine ⟨?_, ?_⟩
              · rw [Hst.out.1]
                unfold outP loP hiP
                simp only
                rw [if_pos hA, if_neg hB, if_neg hC, if_pos hA, if_neg (show ¬ pf + pn < pf + pn by omega)]
                all_goals simp
              · rw [Hst.out.2]
                unfold innP loP hiP
                simp only
                rw [if_pos hA, if_neg hB, if_neg hC]
            have HST : Hid _ := hst2
            clear hst2 Hst
            have ew1 : IntKind.i64.wrap (f - pf) = f - pf := wrapI (by omega) (by omega)
            have ew2 : IntKind.i64.wrap (pf + pn) = pf + pn := wrapI (by omega) (by omega)
            have ew3 : IntKind.i64.wrap (pf + pn - f) = pf + pn - f := wrapI (by omega) (by omega)
            have ew4 : IntKind.i64.wrap (pa + f) = pa + f := wrapI (by omega) (by omega)
            have ew5 : IntKind.i64.wrap (pa + f - pf) = pa + f - pf := wrapI (by omega) (by omega)
            go_wp2_with (first | (at_builtin; refine wpList_append_at rfl _ _ 27 rfl Z 40 _ 4 32 Try.underlying27 info40 rfl (by decide) vo (lo).length (cpp (lo)) rfl ((S0.out.alo (.cells #[.int .i64 (pf), .int .i64 (f - pf), .int .i64 (pa), .bool pz] 40)).1) ⟨W1.heap.size, 0, none⟩ 1 1 (cpp [(⟨pf, f - pf, pa, pz⟩ : Pc)]) rfl rfl (srcP_cells (p := (⟨pf, f - pf, pa, pz⟩ : Pc)) (al1 W1 _)) (cpp_one _) (by simp; omega) (by decide) ((S0.out.alo (.cells #[.int .i64 (pf), .int .i64 (f - pf), .int .i64 (pa), .bool pz] 40)).2.2) ?_; intro v1 x1 o1 r1 a1; obtain ⟨T1, B1⟩ := St.out (q := (⟨pf, f - pf, pa, pz⟩ : Pc)) S0.out o1 r1 a1; have S1 : Hid _ := T1; obtain ⟨m10, m11, m12, m13⟩ := box4_cells T1.box; clear T1 o1 r1 a1) | (at_builtin; refine wpList_append_at rfl _ _ 27 rfl Z 40 _ 4 32 Try.underlying27 info40 rfl (by decide) vi (li).length (cpp (li)) rfl ((S1.out.alo (.cells #[.int .i64 (f), .int .i64 (pf + pn - f), .int .i64 (pa + f - pf), .bool pz] 40)).2.1) ⟨x1.heap.size, 0, none⟩ 1 1 (cpp [(⟨f, pf + pn - f, pa + f - pf, pz⟩ : Pc)]) rfl rfl (srcP_cells (p := (⟨f, pf + pn - f, pa + f - pf, pz⟩ : Pc)) (al1 x1 _)) (cpp_one _) (by simp; omega) (by decide) ((S1.out.alo (.cells #[.int .i64 (f), .int .i64 (pf + pn - f), .int .i64 (pa + f - pf), .bool pz] 40)).2.2) ?_; intro v2 x2 o2 r2 a2; obtain ⟨T2, B2⟩ := St.inn (q := (⟨f, pf + pn - f, pa + f - pf, pz⟩ : Pc)) S1.out o2 r2 a2; have S2 : Hid _ := T2; obtain ⟨m20, m21, m22, m23⟩ := box4_cells T2.box; clear T2 o2 r2 a2))
            go_roundw
            case rel => exact ⟨k + 1, _, _, by omega, by go_num, rfl, rfl, ⟨by rw [HST.out.1]; exact S2.out.o, by rw [HST.out.2]; exact S2.out.i, S2.out.dj⟩, ((g1).trans B1).trans B2, S2.out.z⟩
            case measure => simp [intOf]; omega
      · by_cases hB : e < pf + pn
        · by_cases hC : e ≤ pf
          · have hst2 : O (k + 1) = lo ++ [⟨pf, pn, pa, pz⟩] ∧ I (k + 1) = li := by
              refine ⟨?_, ?_⟩
              · rw [Hst.out.1]
                unfold outP loP hiP
                simp only
                rw [if_neg hA, if_pos hB, if_pos hC]
                all_goals simp
              · rw [Hst.out.2]
                unfold innP loP hiP
                simp only
                rw [if_neg hA, if_pos hB, if_pos hC, List.append_nil]
            have HST : Hid _ := hst2
            clear hst2 Hst
            go_wp2_with (at_builtin; refine wpList_append_at rfl _ _ 27 rfl Z 40 _ 4 32 Try.underlying27 info40 rfl (by decide) vo (lo).length (cpp (lo)) rfl ((S0.out.alo (.cells #[.int .i64 (pf), .int .i64 (pn), .int .i64 (pa), .bool pz] 40)).1) ⟨W1.heap.size, 0, none⟩ 1 1 (cpp [(⟨pf, pn, pa, pz⟩ : Pc)]) rfl rfl (srcP_cells (p := (⟨pf, pn, pa, pz⟩ : Pc)) (al1 W1 _)) (cpp_one _) (by simp; omega) (by decide) ((S0.out.alo (.cells #[.int .i64 (pf), .int .i64 (pn), .int .i64 (pa), .bool pz] 40)).2.2) ?_; intro v1 x1 o1 r1 a1; obtain ⟨T1, B1⟩ := St.out (q := (⟨pf, pn, pa, pz⟩ : Pc)) S0.out o1 r1 a1; have S1 : Hid _ := T1; obtain ⟨m10, m11, m12, m13⟩ := box4_cells T1.box; clear T1 o1 r1 a1)
            go_roundw
            case rel => exact ⟨k + 1, _, _, by omega, by go_num, rfl, rfl, ⟨by rw [HST.out.1]; exact S1.out.o, by rw [HST.out.2]; exact S1.out.i, S1.out.dj⟩, (g1).trans B1, S1.out.z⟩
            case measure => simp [intOf]; omega
          · have hst2 : O (k + 1) = lo ++ [⟨e, pf + pn - e, pa + e - pf, pz⟩] ∧ I (k + 1) = li ++ [⟨pf, e - pf, pa, pz⟩] := by
              refine ⟨?_, ?_⟩
              · rw [Hst.out.1]
                unfold outP loP hiP
                simp only
                rw [if_neg hA, if_pos hB, if_neg hC, if_neg (show ¬ pf < pf by omega), if_pos hB]
                all_goals simp
              · rw [Hst.out.2]
                unfold innP loP hiP
                simp only
                rw [if_neg hA, if_pos hB, if_neg hC]
                rw [show pa + pf - pf = pa by omega]
            have HST : Hid _ := hst2
            clear hst2 Hst
            have ew1 : IntKind.i64.wrap (e - pf) = e - pf := wrapI (by omega) (by omega)
            have ew2 : IntKind.i64.wrap (pf + pn) = pf + pn := wrapI (by omega) (by omega)
            have ew3 : IntKind.i64.wrap (pf + pn - e) = pf + pn - e := wrapI (by omega) (by omega)
            have ew4 : IntKind.i64.wrap (pa + e) = pa + e := wrapI (by omega) (by omega)
            have ew5 : IntKind.i64.wrap (pa + e - pf) = pa + e - pf := wrapI (by omega) (by omega)
            go_wp2_with (first | (at_builtin; refine wpList_append_at rfl _ _ 27 rfl Z 40 _ 4 32 Try.underlying27 info40 rfl (by decide) vi (li).length (cpp (li)) rfl ((S0.out.alo (.cells #[.int .i64 (pf), .int .i64 (e - pf), .int .i64 (pa), .bool pz] 40)).2.1) ⟨W1.heap.size, 0, none⟩ 1 1 (cpp [(⟨pf, e - pf, pa, pz⟩ : Pc)]) rfl rfl (srcP_cells (p := (⟨pf, e - pf, pa, pz⟩ : Pc)) (al1 W1 _)) (cpp_one _) (by simp; omega) (by decide) ((S0.out.alo (.cells #[.int .i64 (pf), .int .i64 (e - pf), .int .i64 (pa), .bool pz] 40)).2.2) ?_; intro v1 x1 o1 r1 a1; obtain ⟨T1, B1⟩ := St.inn (q := (⟨pf, e - pf, pa, pz⟩ : Pc)) S0.out o1 r1 a1; have S1 : Hid _ := T1; obtain ⟨m10, m11, m12, m13⟩ := box4_cells T1.box; clear T1 o1 r1 a1) | (at_builtin; refine wpList_append_at rfl _ _ 27 rfl Z 40 _ 4 32 Try.underlying27 info40 rfl (by decide) vo (lo).length (cpp (lo)) rfl ((S1.out.alo (.cells #[.int .i64 (e), .int .i64 (pf + pn - e), .int .i64 (pa + e - pf), .bool pz] 40)).1) ⟨x1.heap.size, 0, none⟩ 1 1 (cpp [(⟨e, pf + pn - e, pa + e - pf, pz⟩ : Pc)]) rfl rfl (srcP_cells (p := (⟨e, pf + pn - e, pa + e - pf, pz⟩ : Pc)) (al1 x1 _)) (cpp_one _) (by simp; omega) (by decide) ((S1.out.alo (.cells #[.int .i64 (e), .int .i64 (pf + pn - e), .int .i64 (pa + e - pf), .bool pz] 40)).2.2) ?_; intro v2 x2 o2 r2 a2; obtain ⟨T2, B2⟩ := St.out (q := (⟨e, pf + pn - e, pa + e - pf, pz⟩ : Pc)) S1.out o2 r2 a2; have S2 : Hid _ := T2; obtain ⟨m20, m21, m22, m23⟩ := box4_cells T2.box; clear T2 o2 r2 a2))
            go_roundw
            case rel => exact ⟨k + 1, _, _, by omega, by go_num, rfl, rfl, ⟨by rw [HST.out.1]; exact S2.out.o, by rw [HST.out.2]; exact S2.out.i, S2.out.dj⟩, ((g1).trans B1).trans B2, S2.out.z⟩
            case measure => simp [intOf]; omega
        · have hC : ¬ pf + pn ≤ pf := by omega
          have hst2 : O (k + 1) = lo ∧ I (k + 1) = li ++ [⟨pf, pf + pn - pf, pa, pz⟩] := by
            refine ⟨?_, ?_⟩
            · rw [Hst.out.1]
              unfold outP loP hiP
              simp only
              rw [if_neg hA, if_neg hB, if_neg hC, if_neg (show ¬ pf < pf by omega), if_neg (show ¬ pf + pn < pf + pn by omega)]
              all_goals simp
            · rw [Hst.out.2]
              unfold innP loP hiP
              simp only
              rw [if_neg hA, if_neg hB, if_neg hC]
              rw [show pa + pf - pf = pa by omega]
          have HST : Hid _ := hst2
          clear hst2 Hst
          have ew1 : IntKind.i64.wrap (pf + pn) = pf + pn := wrapI (by omega) (by omega)
          have ew2 : IntKind.i64.wrap (pf + pn - pf) = pf + pn - pf := wrapI (by omega) (by omega)
          go_wp2_with (at_builtin; refine wpList_append_at rfl _ _ 27 rfl Z 40 _ 4 32 Try.underlying27 info40 rfl (by decide) vi (li).length (cpp (li)) rfl ((S0.out.alo (.cells #[.int .i64 (pf), .int .i64 (pf + pn - pf), .int .i64 (pa), .bool pz] 40)).2.1) ⟨W1.heap.size, 0, none⟩ 1 1 (cpp [(⟨pf, pf + pn - pf, pa, pz⟩ : Pc)]) rfl rfl (srcP_cells (p := (⟨pf, pf + pn - pf, pa, pz⟩ : Pc)) (al1 W1 _)) (cpp_one _) (by simp; omega) (by decide) ((S0.out.alo (.cells #[.int .i64 (pf), .int .i64 (pf + pn - pf), .int .i64 (pa), .bool pz] 40)).2.2) ?_; intro v1 x1 o1 r1 a1; obtain ⟨T1, B1⟩ := St.inn (q := (⟨pf, pf + pn - pf, pa, pz⟩ : Pc)) S0.out o1 r1 a1; have S1 : Hid _ := T1; obtain ⟨m10, m11, m12, m13⟩ := box4_cells T1.box; clear T1 o1 r1 a1)
          go_roundw
          case rel => exact ⟨k + 1, _, _, by omega, by go_num, rfl, rfl, ⟨by rw [HST.out.1]; exact S1.out.o, by rw [HST.out.2]; exact S1.out.i, S1.out.dj⟩, (g1).trans B1, S1.out.z⟩
          case measure => simp [intOf]; omega
    · obtain rfl : k = n := by omega
      have HO2 : Hid (OwnP wr Z vo RO ∧ OwnP wr Z vi RI) := ⟨HE.out.1 ▸ HO.out.1, HE.out.2 ▸ HO.out.2.1⟩
      clear HO HE HS HLen HOk
      go_wp2_with fail
      go_ret2
      exact ⟨hZ ▸ hb, _, _, rfl, hZ ▸ HO2.out.1, hZ ▸ HO2.out.2⟩
end Go.Proofs.Ytdbmdblghlfjfaa
