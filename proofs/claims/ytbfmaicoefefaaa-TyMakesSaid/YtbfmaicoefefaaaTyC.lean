/- ty.Nodes, ty.Fits: the count of what a range over a type's nodes is handed. -/
import Derived.Test.YtbfmaicoefefaaaTyIt
set_option linter.unusedSimpArgs false
set_option linter.unusedVariables false
namespace Go.Proofs.Ytbfmaicoefefaaa
open Go.RowKit Go.Shelf
attribute [local go_sem] Oper.semAt_some
mutual
theorem walk_len (d : Int) : ∀ t : Ty5, (walkT d t).length = nodesT t
  | .mk k n nm ls ks => by
    simp only [walkT, nodesT, List.length_cons]
    rw [walkL_len (wrap64 (d + 1)) ks]
    omega
theorem walkL_len (d : Int) : ∀ ks : List Ty5, (walkL d ks).length = nodesL ks
  | [] => rfl
  | t :: r => by
    simp only [walkL, nodesL, List.length_append]
    rw [walk_len d t, walkL_len d r]
end
theorem nodes_pos (t : Ty5) : 0 < nodesT t := by
  cases t
  simp only [nodesT]
  omega
theorem wrap_small {a : Int} (h0 : 0 ≤ a) (h1 : a ≤ 1000001) : wrap64 a = a := by unfold wrap64; omega
theorem len_keys {w0 : World} {xs : List (Nd w0)} {t : Ty5} {d : Int} (h : xs.map Nd.key = walkT d t) : xs.length = nodesT t := by
  have := congrArg List.length h
  rw [List.length_map, walk_len] at this
  exact this
theorem len_part {w0 : World} {xs : List (Nd w0)} {t : Ty5} {d : Int} (h : xs.map Nd.key <+: walkT d t) : xs.length ≤ nodesT t := by
  have := h.length_le
  rw [List.length_map, walk_len] at this
  exact this
set_option maxRecDepth 100000 in
set_option maxHeartbeats 4000000 in
theorem pnodes_any (t : Ty5) (v0 v1 v2 v3 v4 : Value) (w : World) (hT : TyIn w t v0 v1 v2 v3 v4) (hn : nodesT t ≤ 1000000) :
    Calls Try.prog 15 #[.agg #[v0, v1, v2, v3, v4]] w fun e w' => e = .returned (.int .i64 (nodesT t)) ∧ Below w.heap.size w w' := by
  refine (callsIn_wide (n := 6)).1 ?_
  have hf1 : Fence.wide.fn 47 := trivial
  have HT := Asd.mk hT
  have HN := Asd.mk hn
  clear hT hn
  refine callsIn_of_wp_marks Try.func15 rfl trivial ?_ rfl
  simp only [Try.ntmps15, List.size_toArray, List.length_cons, List.length_nil, Nat.reduceAdd, Nat.reduceSub, Array.replicate_succ, Array.replicate_zero, List.push_toArray, List.append_toArray, List.nil_append, List.cons_append]
  gi_wp2_with (gi_at_call 47; refine (callsIn_wide.2 (nodes_any v0 v1 v2 v3 v4 _)).mono ?_; rintro e w' ⟨rfl, rfl⟩)
  have bS := boxed_nodesW (Boxed.new (w.alloc (.cells #[v0, v1, v2, v3, v4] 25)) 3 (.int .i64 0)) v0 v1 v2 v3 v4
  have bA := nodesW_root ((w.alloc (.cells #[v0, v1, v2, v3, v4] 25)).alloc (.cells #[.int .i64 0] 3)) v0 v1 v2 v3 v4
  have bP := nodesW_parts ((w.alloc (.cells #[v0, v1, v2, v3, v4] 25)).alloc (.cells #[.int .i64 0] 3)) v0 v1 v2 v3 v4
  have hB0 : Below w.heap.size w (nodesW ((w.alloc (.cells #[v0, v1, v2, v3, v4] 25)).alloc (.cells #[.int .i64 0] 3)) v0 v1 v2 v3 v4) := below_nodesW (((Below.refl _ w).alloc (Nat.le_refl _) _).alloc (by simp) _) (by simp only [World.size_alloc] <;> omega) v0 v1 v2 v3 v4
  have hsz : (nodesW ((w.alloc (.cells #[v0, v1, v2, v3, v4] 25)).alloc (.cells #[.int .i64 0] 3)) v0 v1 v2 v3 v4).heap.size = w.heap.size + 5 := by rw [nodesW_size]; simp only [World.size_alloc] <;> omega
  simp only [World.size_alloc] at bS bA bP
  obtain ⟨W0, hW0⟩ : ∃ W0, nodesW ((w.alloc (.cells #[v0, v1, v2, v3, v4] 25)).alloc (.cells #[.int .i64 0] 3)) v0 v1 v2 v3 v4 = W0 := ⟨_, rfl⟩
  rw [hW0] at bS bA bP hB0 hsz ⊢
  clear hW0
  refine wpIn_rangeFunc_ownH rfl (by omega) (gf := 88) (lb := #[.pointer (some ⟨w.heap.size + 1 + 1 + 1, 0, none⟩), .pointer (some ⟨w.heap.size + 1 + 1 + 1 + 1, 0, none⟩)]) rfl trivial (enters_of Try.func88 (by kernel_rfl) rfl)
    (nodes_stops 5 (w.heap.size + 1 + 1 + 1) (w.heap.size + 1 + 1 + 1 + 1) (w.heap.size + 5) (fun k => k = w.heap.size + 1) (fun k h => by omega) w W0 t v0 v1 v2 v3 v4 HT.out hB0 (by omega) bA bP) kpS_t (kpS_b (by omega)) (Below.refl _ _) (fun _ => rfl)
    (fun pre W => Boxed W (w.heap.size + 1) 3 (.int .i64 (wrap64 (pre.length : Nat))) ∧ Below w.heap.size w W)
    (fun _ _ _ => False)
    (OwnFrom.and (Own.from (boxed_own _ _ _) _) (ownFrom_below (Nat.le_refl _) (by omega)))
    (fun _ _ _ _ _ hs _ _ => hs)
    ⟨by simpa [wrap64] using bS, hB0⟩
    (fun x a' _ => a' = { tmps := #[.agg #[v0, v1, v2, v3, v4], .pointer (some ⟨w.heap.size, 0, none⟩), .int .i64 0, .pointer (some ⟨w.heap.size + 1, 0, none⟩), .agg #[v0, v1, v2, v3, v4], .func (.func 88) #[] #[.pointer (some ⟨w.heap.size + 1 + 1 + 1, 0, none⟩), .pointer (some ⟨w.heap.size + 1 + 1 + 1 + 1, 0, none⟩)], .int .i64 x.d, .agg #[x.v0, x.v1, x.v2, x.v3, x.v4], undef, undef, undef], defers := [] })
    (fun _ _ _ _ _ _ hs _ _ => hs)
    ?assign ?body ?done ?stop
  case assign =>
    intro l pre x W K hi hK
    simp only [Nd.vals, zip2]
    gi_wp2
    exact hK _ _ (KeepsFrom.refl _ _) (KpS.refl _ _ _) hi rfl
  case body =>
    rintro l pre x a' W hl hr ⟨bS1, hB1⟩ rfl hlt
    have cS := bS1.cell
    have fS := bS1.frozen
    gi_wp2
    refine ⟨(KeepsOthers.setCell _ _ _).from _, KpS.store (S := fun k => k = w.heap.size + 1) W rfl (by omega) _, ?_, hB1.setCell (p := ⟨w.heap.size + 1, 0, none⟩) (by simp) _⟩
    have e : wrap64 (wrap64 (pre.length : Nat) + 1) = wrap64 ((pre ++ [x]).length : Nat) := by
      simp only [List.length_append, List.length_cons, List.length_nil]
      unfold wrap64
      omega
    rw [← e]
    exact bS1.set _
  case done =>
    rintro D xs W hD hxs ⟨bS1, hB1⟩ hK
    have cS := bS1.cell
    gi_wp2
    refine ⟨by simp, .inl ⟨_, _, rfl, run_takeDeferred hK, ?_⟩⟩
    exact ⟨_, results_tmp rfl _ _ _, by rw [len_keys hxs, wrap_small (by omega) (by have := HN.out; omega)]; rfl, hB1.trans (belowK_b (w := w) (Nat.le_refl _) W D _ _ (by omega) hK rfl rfl)⟩
  case stop =>
    rintro D c pre W _ _ h _
    exact h.elim
set_option maxRecDepth 100000 in
set_option maxHeartbeats 4000000 in
theorem pfits_any (t : Ty5) (v0 v1 v2 v3 v4 : Value) (w : World) (hT : TyIn w t v0 v1 v2 v3 v4) :
    Calls Try.prog 24 #[.agg #[v0, v1, v2, v3, v4]] w fun e w' => e = .returned (.bool (decide (nodesT t ≤ 300))) ∧ Below w.heap.size w w' := by
  refine (callsIn_wide (n := 6)).1 ?_
  have hf1 : Fence.wide.fn 47 := trivial
  have HT := Asd.mk hT
  clear hT
  refine callsIn_of_wp_marks Try.func24 rfl trivial ?_ rfl
  simp only [Try.ntmps24, List.size_toArray, List.length_cons, List.length_nil, Nat.reduceAdd, Nat.reduceSub, Array.replicate_succ, Array.replicate_zero, List.push_toArray, List.append_toArray, List.nil_append, List.cons_append]
  gi_wp2_with (gi_at_call 47; refine (callsIn_wide.2 (nodes_any v0 v1 v2 v3 v4 _)).mono ?_; rintro e w' ⟨rfl, rfl⟩)
  obtain ⟨w1, hw1⟩ : ∃ w1, w.alloc (.cells #[v0, v1, v2, v3, v4] 25) = w1 := ⟨_, rfl⟩
  have hb1 : Below w.heap.size w w1 := by rw [← hw1]; exact (Below.refl _ w).alloc (Nat.le_refl _) _
  have hs1 : w1.heap.size = w.heap.size + 1 := by rw [← hw1]; simp
  rw [hw1]
  clear hw1
  have bR := boxed_nodesW ((Boxed.new w1 4 (.bool false)).alloc (.cells #[.int .i64 0] 3)) v0 v1 v2 v3 v4
  have bS := boxed_nodesW (Boxed.new (w1.alloc (.cells #[.bool false] 4)) 3 (.int .i64 0)) v0 v1 v2 v3 v4
  have bA := nodesW_root ((w1.alloc (.cells #[.bool false] 4)).alloc (.cells #[.int .i64 0] 3)) v0 v1 v2 v3 v4
  have bP := nodesW_parts ((w1.alloc (.cells #[.bool false] 4)).alloc (.cells #[.int .i64 0] 3)) v0 v1 v2 v3 v4
  have hB0 : Below w.heap.size w (nodesW ((w1.alloc (.cells #[.bool false] 4)).alloc (.cells #[.int .i64 0] 3)) v0 v1 v2 v3 v4) := below_nodesW ((hb1.alloc (by omega) _).alloc (by simp; omega) _) (by simp only [World.size_alloc] <;> omega) v0 v1 v2 v3 v4
  have hsz : (nodesW ((w1.alloc (.cells #[.bool false] 4)).alloc (.cells #[.int .i64 0] 3)) v0 v1 v2 v3 v4).heap.size = w.heap.size + 6 := by rw [nodesW_size]; simp only [World.size_alloc] <;> omega
  simp only [World.size_alloc, hs1] at bR bS bA bP
  obtain ⟨W0, hW0⟩ : ∃ W0, nodesW ((w1.alloc (.cells #[.bool false] 4)).alloc (.cells #[.int .i64 0] 3)) v0 v1 v2 v3 v4 = W0 := ⟨_, rfl⟩
  rw [hW0] at bR bS bA bP hB0 hsz ⊢
  clear hW0
  refine wpIn_rangeFunc_ownH rfl (by omega) (gf := 88) (lb := #[.pointer (some ⟨w.heap.size + 1 + 1 + 1 + 1, 0, none⟩), .pointer (some ⟨w.heap.size + 1 + 1 + 1 + 1 + 1, 0, none⟩)]) rfl trivial (enters_of Try.func88 (by kernel_rfl) rfl)
    (nodes_stops 5 (w.heap.size + 1 + 1 + 1 + 1) (w.heap.size + 1 + 1 + 1 + 1 + 1) (w.heap.size + 6) (fun k => k = w.heap.size + 1 ∨ k = w.heap.size + 1 + 1) (fun k h => by omega) w W0 t v0 v1 v2 v3 v4 HT.out hB0 (by omega) bA bP) kpS_t (kpS_b (by omega)) (Below.refl _ _) (fun _ => rfl)
    (fun pre W => ((Boxed W (w.heap.size + 1) 4 (.bool false) ∧ Boxed W (w.heap.size + 1 + 1) 3 (.int .i64 (pre.length : Nat))) ∧ pre.length ≤ 300) ∧ Below w.heap.size w W)
    (fun c pre W => ((c = .ret ∧ 300 < pre.length) ∧ Boxed W (w.heap.size + 1) 4 (.bool false)) ∧ Below w.heap.size w W)
    (OwnFrom.and (OwnFrom.and (OwnFrom.and (Own.from (boxed_own _ _ _) _) (Own.from (boxed_own _ _ _) _)) (ownFrom_pure _ _)) (ownFrom_below (Nat.le_refl _) (by omega)))
    (fun c => OwnFrom.and (OwnFrom.and (ownFrom_pure _ _) (Own.from (boxed_own _ _ _) _)) (ownFrom_below (Nat.le_refl _) (by omega)))
    ⟨⟨⟨bR, bS⟩, by simp⟩, hB0⟩
    (fun x a' _ => a' = { tmps := #[.agg #[v0, v1, v2, v3, v4], .pointer (some ⟨w.heap.size, 0, none⟩), .pointer (some ⟨w.heap.size + 1, 0, none⟩), .pointer (some ⟨w.heap.size + 1 + 1, 0, none⟩), .agg #[v0, v1, v2, v3, v4], .func (.func 88) #[] #[.pointer (some ⟨w.heap.size + 1 + 1 + 1 + 1, 0, none⟩), .pointer (some ⟨w.heap.size + 1 + 1 + 1 + 1 + 1, 0, none⟩)], .int .i64 x.d, .agg #[x.v0, x.v1, x.v2, x.v3, x.v4], undef, undef, undef, undef], defers := [] })
    (fun _ _ _ _ _ _ hs _ _ => hs)
    ?assign ?body ?done ?stop
  case assign =>
    intro l pre x W K hi hK
    simp only [Nd.vals, zip2]
    gi_wp2
    exact hK _ _ (KeepsFrom.refl _ _) (KpS.refl _ _ _) hi rfl
  case body =>
    rintro l pre x a' W hl hr ⟨⟨⟨bR1, bS1⟩, h3⟩, hB1⟩ rfl hlt
    have cS := bS1.cell
    have fS := bS1.frozen
    have cR := bR1.cell
    have fR := bR1.frozen
    have hw : wrap64 ((pre.length : Nat) + 1) = ((pre ++ [x]).length : Nat) := by
      simp only [List.length_append, List.length_cons, List.length_nil]
      unfold wrap64
      omega
    have HW := Asd.mk hw
    clear hw
    by_cases h : pre.length = 300
    · rw [h] at cS bS1
      gi_wp2
      refine ⟨((KeepsOthers.setCell _ _ _).trans (KeepsOthers.setCell _ _ _)).from _, ⟨⟨rfl, by simp [h]⟩, (bR1.other (by omega) _).set _⟩, (hB1.setCell (p := ⟨w.heap.size + 1 + 1, 0, none⟩) (by simp; omega) _).setCell (p := ⟨w.heap.size + 1, 0, none⟩) (by simp) _⟩
    · gi_wp2
      refine ⟨(KeepsOthers.setCell _ _ _).from _, KpS.store (S := fun k => k = w.heap.size + 1 ∨ k = w.heap.size + 1 + 1) W (.inr rfl) (by omega) _, ⟨⟨bR1.other (by omega) _, ?_⟩, by simp; omega⟩, hB1.setCell (p := ⟨w.heap.size + 1 + 1, 0, none⟩) (by simp; omega) _⟩
      have e : (((pre ++ [x]).length : Nat) : Int) = (pre.length : Nat) + 1 := by simp
      rw [e]
      exact bS1.set _
  case done =>
    rintro D xs W hD hxs ⟨⟨⟨bR1, bS1⟩, h3⟩, hB1⟩ hK
    have cR := bR1.cell
    have fR := bR1.frozen
    have hn := len_keys hxs
    gi_wp2
    have hK' := (KeepsOthers.setCell W ⟨w.heap.size + 1, 0, none⟩ (.bool true)).same D _ hK rfl
    refine ⟨by simp, .inl ⟨_, _, rfl, run_takeDeferred hK', ?_⟩⟩
    have hc5 := cell_kept (bR1.set (.bool true)).cell (grownBy_putObj' _ D (.deferred none)) (fun r e => by cases e; exact ⟨_, hK', rfl⟩)
    refine ⟨.bool true, ?_, by rw [decide_eq_true (by omega)], (hB1.setCell (p := ⟨w.heap.size + 1, 0, none⟩) (by simp) _).trans (belowK_b (w := w) (Nat.le_refl _) _ D _ _ (by omega) hK' rfl rfl)⟩
    simp [results, Try.results24, go_sem, hc5]
  case stop =>
    rintro D c pre W hD hpre ⟨⟨⟨rfl, h3⟩, bR1⟩, hB1⟩ hK
    have hn := len_part hpre
    gi_wp2
    refine ⟨by simp, .inl ⟨_, _, rfl, run_takeDeferred hK, ?_⟩⟩
    have hc5 := cell_kept bR1.cell (grownBy_putObj' _ D (.deferred none)) (fun r e => by cases e; exact ⟨_, hK, rfl⟩)
    refine ⟨.bool false, ?_, by rw [decide_eq_false (by omega)], hB1.trans (belowK_b (w := w) (Nat.le_refl _) W D _ _ (by omega) hK rfl rfl)⟩
    simp [results, Try.results24, go_sem, hc5]
end Go.Proofs.Ytbfmaicoefefaaa
