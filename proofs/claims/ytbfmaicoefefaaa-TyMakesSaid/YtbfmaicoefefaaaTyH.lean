/- ty.Depth, ty.Has: the greatest depth, and a kind, of what a range over a type's nodes is handed. -/
import Derived.Test.YtbfmaicoefefaaaTyC
set_option linter.unusedSimpArgs false
set_option linter.unusedVariables false
namespace Go.Proofs.Ytbfmaicoefefaaa
open Go.RowKit Go.Shelf
attribute [local go_sem] Oper.semAt_some
mutual
theorem depth_fold : ∀ (t : Ty5) (d g : Int), 0 ≤ d → d + depthT t ≤ 1000001 → (walkT d t).foldl (fun g p => max g p.1) g = max g (d + depthT t - 1)
  | .mk k n nm ls ks, d, g, h0, h1 => by
    simp only [depthT] at h1 ⊢
    simp only [walkT, List.foldl_cons]
    rw [wrap_small (by omega) (by omega), depthL_fold ks (d + 1) (max g d) (by omega) (by omega) (by omega)]
    omega
theorem depthL_fold : ∀ (ks : List Ty5) (d g : Int), 0 ≤ d → d - 1 ≤ g → d + depthL ks ≤ 1000001 → (walkL d ks).foldl (fun g p => max g p.1) g = max g (d + depthL ks - 1)
  | [], d, g, h0, hg, h1 => by
    simp only [walkL, depthL, List.foldl_nil]
    omega
  | t :: r, d, g, h0, hg, h1 => by
    simp only [depthL] at h1 ⊢
    simp only [walkL, List.foldl_append]
    rw [depth_fold t d g h0 (by omega), depthL_fold r d _ h0 (by omega) (by omega)]
    omega
end
def gmax {w0 : World} (xs : List (Nd w0)) : Int := xs.foldl (fun g x => max g x.d) 0
theorem gmax_snoc {w0 : World} (xs : List (Nd w0)) (x : Nd w0) : gmax (xs ++ [x]) = max (gmax xs) x.d := by simp [gmax]
theorem gmax_keys {w0 : World} {xs : List (Nd w0)} {t : Ty5} (h : xs.map Nd.key = walkT 1 t) (hn : nodesT t ≤ 1000000) : gmax xs = depthT t := by
  have h1 := depth_fold t 1 0 (by omega) (by have := depth_nodes t; omega)
  rw [← h, List.foldl_map] at h1
  unfold gmax
  refine Eq.trans ?_ (h1.trans (by omega))
  rfl
set_option maxRecDepth 100000 in
set_option maxHeartbeats 4000000 in
theorem pdepth_any (t : Ty5) (v0 v1 v2 v3 v4 : Value) (w : World) (hT : TyIn w t v0 v1 v2 v3 v4) (hn : nodesT t ≤ 1000000) :
    Calls Try.prog 17 #[.agg #[v0, v1, v2, v3, v4]] w fun e w' => e = .returned (.int .i64 (depthT t)) ∧ Below w.heap.size w w' := by
  refine (callsIn_wide (n := 6)).1 ?_
  have hf1 : Fence.wide.fn 47 := trivial
  have HT := Asd.mk hT
  have HN := Asd.mk hn
  clear hT hn
  refine callsIn_of_wp_marks Try.func17 rfl trivial ?_ rfl
  simp only [Try.ntmps17, List.size_toArray, List.length_cons, List.length_nil, Nat.reduceAdd, Nat.reduceSub, Array.replicate_succ, Array.replicate_zero, List.push_toArray, List.append_toArray, List.nil_append, List.cons_append]
  gi_wp2_with (gi_at_call 47; refine (callsIn_wide.2 (nodes_any v0 v1 v2 v3 v4 _)).mono ?_; rintro e w' ⟨rfl, rfl⟩)
  have bS := boxed_nodesW (Boxed.new (w.alloc (.cells #[v0, v1, v2, v3, v4] 25)) 3 (.int .i64 0)) v0 v1 v2 v3 v4
  have bA := nodesW_root ((w.alloc (.cells #[v0, v1, v2, v3, v4] 25)).alloc (.cells #[.int .i64 0] 3)) v0 v1 v2 v3 v4
  have bP := nodesW_parts ((w.alloc (.cells #[v0, v1, v2, v3, v4] 25)).alloc (.cells #[.int .i64 0] 3)) v0 v1 v2 v3 v4
  have hB0 : Below w.heap.size w (nodesW ((w.alloc (.cells #[v0, v1, v2, v3, v4] 25)).alloc (.cells #[.int .i64 0] 3)) v0 v1 v2 v3 v4) := below_nodesW (((Below.refl _ w).alloc (Nat.le_refl _) _).alloc (by simp) _) (by simp only [World.size_alloc] <;> omega) v0 v1 v2 v3 v4
  have hsz : (nodesW ((w.alloc (.cells #[v0, v1, v2, v3, v4] 25)).alloc (.cells #[.int .i64 0] 3)) v0 v1 v2 v3 v4).heap.size = w.heap.size + 5 := by rw [nodesW_size]; simp only [World.size_alloc] <;> omega
  simp only [World.size_alloc] at bS bA bP
  obtain ⟨W0, hW0⟩ : ∃ W0, nodesW ((w.alloc (.cells #[v0, v1, v2, v3, v4] 25)).alloc (.cells #[.int .i64 0] 3)) v0 v1 v2 v3 v4 = W0 := ⟨_, rfl⟩
  rw [hW0] at bS bA bP hB0 hsz ⊢
  clear hW0
  refine wpIn_rangeFunc_ownH rfl (by omega) (gf := 88) (lb := #[.pointer (some ⟨w.heap.size + 1 + 1 + 1, 0, none⟩), .pointer (some ⟨w.heap.size + 1 + 1 + 1 + 1, 0, none⟩)]) rfl trivial (enters_of Try.func88 (by kernel_rfl) rfl)
    (nodes_stops 5 (w.heap.size + 1 + 1 + 1) (w.heap.size + 1 + 1 + 1 + 1) (w.heap.size + 5) (fun k => k = w.heap.size + 1) (fun k h => by omega) w W0 t v0 v1 v2 v3 v4 HT.out hB0 (by omega) bA bP) kpS_t (kpS_b (by omega)) (Below.refl _ _) (fun _ => rfl)
    (fun pre W => Boxed W (w.heap.size + 1) 3 (.int .i64 (gmax pre)) ∧ Below w.heap.size w W)
    (fun _ _ _ => False)
    (OwnFrom.and (Own.from (boxed_own _ _ _) _) (ownFrom_below (Nat.le_refl _) (by omega)))
    (fun _ _ _ _ _ hs _ _ => hs)
    ⟨bS, hB0⟩
    (fun x a' _ => a' = { tmps := #[.agg #[v0, v1, v2, v3, v4], .pointer (some ⟨w.heap.size, 0, none⟩), .int .i64 0, .pointer (some ⟨w.heap.size + 1, 0, none⟩), .int .i64 x.d, .agg #[v0, v1, v2, v3, v4], .func (.func 88) #[] #[.pointer (some ⟨w.heap.size + 1 + 1 + 1, 0, none⟩), .pointer (some ⟨w.heap.size + 1 + 1 + 1 + 1, 0, none⟩)], .int .i64 x.d, .agg #[x.v0, x.v1, x.v2, x.v3, x.v4], undef, undef, undef, undef], defers := [] })
    (fun _ _ _ _ _ _ hs _ _ => hs)
    ?assign ?body ?done ?stop
  case assign =>
    intro l pre x W K hi hK
    simp only [Nd.vals, zip2]
    gi_wp2
    exact hK _ _ (KeepsFrom.refl _ _) (KpS.refl _ _ _) hi rfl
  case body =>
    rintro l pre x a' W hl hr ⟨bS1, hB1⟩ rfl hlt
    have cS := bS1.cell
    have fS := bS1.frozen
    gi_wp2
    all_goals
      refine ⟨(KeepsOthers.setCell _ _ _).from _, KpS.store (S := fun k => k = w.heap.size + 1) W rfl (by omega) _, ?_, hB1.setCell (p := ⟨w.heap.size + 1, 0, none⟩) (by simp) _⟩
      rw [gmax_snoc]
      first
        | exact bS1.set _
        | (rw [show max (gmax pre) x.d = x.d by omega]; exact bS1.set _)
        | (rw [show max (gmax pre) x.d = gmax pre by omega]; exact bS1.set _)
  case done =>
    rintro D xs W hD hxs ⟨bS1, hB1⟩ hK
    have cS := bS1.cell
    gi_wp2
    refine ⟨by simp, .inl ⟨_, _, rfl, run_takeDeferred hK, ?_⟩⟩
    exact ⟨_, results_tmp rfl _ _ _, by rw [gmax_keys hxs HN.out]; rfl, hB1.trans (belowK_b (w := w) (Nat.le_refl _) W D _ _ (by omega) hK rfl rfl)⟩
  case stop =>
    rintro D c pre W _ _ h _
    exact h.elim
mutual
theorem has_walk (kd : Int) : ∀ (t : Ty5) (d : Int), (walkT d t).any (fun p => p.2.k == kd) = hasT kd t
  | .mk k n nm ls ks, d => by
    simp only [walkT, hasT, List.any_cons]
    rw [hasL_walk kd ks]
    rfl
theorem hasL_walk (kd : Int) : ∀ (ks : List Ty5) (d : Int), (walkL d ks).any (fun p => p.2.k == kd) = hasL kd ks
  | [], d => rfl
  | t :: r, d => by
    simp only [walkL, hasL, List.any_append]
    rw [has_walk kd t, hasL_walk kd r]
end
/-- A block with a node's five cells. -/
def Box5 (W : World) (B : Nat) {w0 : World} (x : Nd w0) : Prop := W.heap[B]? = some (.cells #[x.v0, x.v1, x.v2, x.v3, x.v4] 25 (0, 0))
theorem box5_own {w0 : World} (B : Nat) (x : Nd w0) : Own (fun (_ : Unit) W => Box5 W B x) := fun s X Y row hs hg hrow => by
  have hlt : B < X.heap.size := (Array.getElem?_eq_some_iff.1 (show X.heap[B]? = _ from hs)).1
  exact (hg.block B hlt (fun e' => by obtain ⟨o, ho, hc⟩ := hrow B e'.symm; rw [show X.heap[B]? = _ from hs] at ho; cases ho; cases hc)).trans hs
theorem Box5.kind {W : World} {B : Nat} {w0 : World} {x : Nd w0} (h : Box5 W B x) : W.cell? ⟨B, 0, none⟩ = some (.int .i64 x.t.k) := by
  obtain ⟨d, ⟨k', n', nm', ls', ks'⟩, u0, u1, u2, u3, u4, hu⟩ := x
  have h1 := box_cell (i := 0) h rfl
  obtain ⟨rfl, _⟩ := hu
  exact h1
theorem any_part {w0 : World} {pre : List (Nd w0)} {l : List (Int × Ty5)} {p : Int × Ty5 → Bool} (h : pre.map Nd.key <+: l) {y : Nd w0} (hy : y ∈ pre) (hp : p y.key = true) : l.any p = true :=
  List.any_eq_true.2 ⟨y.key, h.subset (List.mem_map_of_mem hy), hp⟩
theorem any_none {w0 : World} {pre : List (Nd w0)} {l : List (Int × Ty5)} {p : Int × Ty5 → Bool} (h : pre.map Nd.key = l) (hy : ∀ y ∈ pre, p y.key = false) : l.any p = false := by
  rw [← h, Bool.eq_false_iff]
  intro hc
  obtain ⟨q, hq, hp⟩ := List.any_eq_true.1 hc
  obtain ⟨y, hy', rfl⟩ := List.mem_map.1 hq
  rw [hy y hy'] at hp
  cases hp
set_option maxRecDepth 100000 in
set_option maxHeartbeats 4000000 in
theorem phas_any (t : Ty5) (kd : Int) (v0 v1 v2 v3 v4 : Value) (w : World) (hT : TyIn w t v0 v1 v2 v3 v4) :
    Calls Try.prog 19 #[.agg #[v0, v1, v2, v3, v4], .int .i64 kd] w fun e w' => e = .returned (.bool (hasT kd t)) ∧ Below w.heap.size w w' := by
  refine (callsIn_wide (n := 6)).1 ?_
  have hf1 : Fence.wide.fn 47 := trivial
  have HT := Asd.mk hT
  clear hT
  refine callsIn_of_wp_marks Try.func19 rfl trivial ?_ rfl
  simp only [Try.ntmps19, List.size_toArray, List.length_cons, List.length_nil, Nat.reduceAdd, Nat.reduceSub, Array.replicate_succ, Array.replicate_zero, List.push_toArray, List.append_toArray, List.nil_append, List.cons_append]
  gi_wp2_with (gi_at_call 47; refine (callsIn_wide.2 (nodes_any v0 v1 v2 v3 v4 _)).mono ?_; rintro e w' ⟨rfl, rfl⟩)
  obtain ⟨w1, hw1⟩ : ∃ w1, w.alloc (.cells #[v0, v1, v2, v3, v4] 25) = w1 := ⟨_, rfl⟩
  have hb1 : Below w.heap.size w w1 := by rw [← hw1]; exact (Below.refl _ w).alloc (Nat.le_refl _) _
  have hs1 : w1.heap.size = w.heap.size + 1 := by rw [← hw1]; simp
  rw [hw1]
  clear hw1
  have bK := boxed_nodesW ((Boxed.new w1 3 (.int .i64 kd)).alloc (.cells #[.bool false] 4)) v0 v1 v2 v3 v4
  have bR := boxed_nodesW (Boxed.new (w1.alloc (.cells #[.int .i64 kd] 3)) 4 (.bool false)) v0 v1 v2 v3 v4
  have bA := nodesW_root ((w1.alloc (.cells #[.int .i64 kd] 3)).alloc (.cells #[.bool false] 4)) v0 v1 v2 v3 v4
  have bP := nodesW_parts ((w1.alloc (.cells #[.int .i64 kd] 3)).alloc (.cells #[.bool false] 4)) v0 v1 v2 v3 v4
  have hB0 : Below w.heap.size w (nodesW ((w1.alloc (.cells #[.int .i64 kd] 3)).alloc (.cells #[.bool false] 4)) v0 v1 v2 v3 v4) := below_nodesW ((hb1.alloc (by omega) _).alloc (by simp; omega) _) (by simp only [World.size_alloc] <;> omega) v0 v1 v2 v3 v4
  have hsz : (nodesW ((w1.alloc (.cells #[.int .i64 kd] 3)).alloc (.cells #[.bool false] 4)) v0 v1 v2 v3 v4).heap.size = w.heap.size + 6 := by rw [nodesW_size]; simp only [World.size_alloc] <;> omega
  simp only [World.size_alloc, hs1] at bK bR bA bP
  obtain ⟨W0, hW0⟩ : ∃ W0, nodesW ((w1.alloc (.cells #[.int .i64 kd] 3)).alloc (.cells #[.bool false] 4)) v0 v1 v2 v3 v4 = W0 := ⟨_, rfl⟩
  rw [hW0] at bK bR bA bP hB0 hsz ⊢
  clear hW0
  refine wpIn_rangeFunc_ownH rfl (by omega) (gf := 88) (lb := #[.pointer (some ⟨w.heap.size + 1 + 1 + 1 + 1, 0, none⟩), .pointer (some ⟨w.heap.size + 1 + 1 + 1 + 1 + 1, 0, none⟩)]) rfl trivial (enters_of Try.func88 (by kernel_rfl) rfl)
    (nodes_stops 5 (w.heap.size + 1 + 1 + 1 + 1) (w.heap.size + 1 + 1 + 1 + 1 + 1) (w.heap.size + 6) (fun k => k = w.heap.size + 1 + 1) (fun k h => by omega) w W0 t v0 v1 v2 v3 v4 HT.out hB0 (by omega) bA bP) kpS_t (kpS_b (by omega)) (Below.refl _ _) (fun _ => rfl)
    (fun pre W => ((Boxed W (w.heap.size + 1 + 1) 4 (.bool false) ∧ Boxed W (w.heap.size + 1) 3 (.int .i64 kd)) ∧ (∀ y ∈ pre, y.t.k ≠ kd)) ∧ Below w.heap.size w W)
    (fun c pre W => ((c = .ret ∧ ∃ y ∈ pre, y.t.k = kd) ∧ Boxed W (w.heap.size + 1 + 1) 4 (.bool true)) ∧ Below w.heap.size w W)
    (OwnFrom.and (OwnFrom.and (OwnFrom.and (Own.from (boxed_own _ _ _) _) (Own.from (boxed_own _ _ _) _)) (ownFrom_pure _ _)) (ownFrom_below (Nat.le_refl _) (by omega)))
    (fun c => OwnFrom.and (OwnFrom.and (ownFrom_pure _ _) (Own.from (boxed_own _ _ _) _)) (ownFrom_below (Nat.le_refl _) (by omega)))
    ⟨⟨⟨bR, bK⟩, by simp⟩, hB0⟩
    (fun x a' W => ∃ Bx, Box5 W Bx x ∧ a' = { tmps := #[.agg #[v0, v1, v2, v3, v4], .int .i64 kd, .pointer (some ⟨w.heap.size, 0, none⟩), .pointer (some ⟨w.heap.size + 1, 0, none⟩), .pointer (some ⟨w.heap.size + 1 + 1, 0, none⟩), undef, .pointer (some ⟨Bx, 0, none⟩), .agg #[v0, v1, v2, v3, v4], .func (.func 88) #[] #[.pointer (some ⟨w.heap.size + 1 + 1 + 1 + 1, 0, none⟩), .pointer (some ⟨w.heap.size + 1 + 1 + 1 + 1 + 1, 0, none⟩)], .int .i64 x.d, .agg #[x.v0, x.v1, x.v2, x.v3, x.v4], undef, undef, undef, undef], defers := [] })
    (fun x a' _ X Y row hs hg hr => by
      obtain ⟨Bx, h1, h2⟩ := hs
      exact ⟨Bx, box5_own Bx x () X Y row h1 hg (fun r e => (hr r e).2), h2⟩)
    ?assign ?body ?done ?stop
  case assign =>
    rintro l pre x W K ⟨⟨⟨bR1, bK1⟩, h3⟩, hB1⟩ hK
    have hW := hB1.size
    obtain ⟨d, t', u0, u1, u2, u3, u4, hu⟩ := x
    obtain ⟨k', n', nm', a', l', cc', a'', l'', cc'', rfl, rfl, rfl, rfl, rfl⟩ := hu.form
    simp only [Nd.vals, zip2]
    gi_wp2
    exact hK _ _ ((KeepsOthers.alloc _ _).from _) (KpS.of_below hW ((Below.refl _ _).alloc (Nat.le_refl _) _)) ⟨⟨⟨bR1.alloc _, bK1.alloc _⟩, h3⟩, hB1.alloc hB1.size _⟩ ⟨W.heap.size, World.alloc_heap_new W _, rfl⟩
  case body =>
    rintro l pre x a' W hl hr ⟨⟨⟨bR1, bK1⟩, h3⟩, hB1⟩ ⟨Bx, bX, rfl⟩ hlt
    have cR := bR1.cell
    have fR := bR1.frozen
    have cK := bK1.cell
    have cX := bX.kind
    rcases Bool.eq_false_or_eq_true (x.t.k == kd) with hq | hq
    · gi_wp2
      refine ⟨(KeepsOthers.setCell _ _ _).from _, ⟨⟨rfl, ⟨_, List.mem_append_right _ (List.mem_singleton.2 rfl), beq_iff_eq.1 hq⟩⟩, bR1.set _⟩, hB1.setCell (p := ⟨w.heap.size + 1 + 1, 0, none⟩) (by simp; omega) _⟩
    · gi_wp2
      refine ⟨KeepsFrom.refl _ _, KpS.refl _ _ _, ⟨⟨bR1, bK1⟩, fun y hy => ?_⟩, hB1⟩
      rcases List.mem_append.1 hy with hy | hy
      · exact h3 y hy
      · rw [List.mem_singleton.1 hy]
        exact fun e => by rw [show x.t.k = kd from e, beq_self_eq_true] at hq; cases hq
  case done =>
    rintro D xs W hD hxs ⟨⟨⟨bR1, bK1⟩, h3⟩, hB1⟩ hK
    have cR := bR1.cell
    have fR := bR1.frozen
    gi_wp2
    have hK' := (KeepsOthers.setCell W ⟨w.heap.size + 1 + 1, 0, none⟩ (.bool false)).same D _ hK rfl
    refine ⟨by simp, .inl ⟨_, _, rfl, run_takeDeferred hK', ?_⟩⟩
    have hc5 := cell_kept (bR1.set (.bool false)).cell (grownBy_putObj' _ D (.deferred none)) (fun r e => by cases e; exact ⟨_, hK', rfl⟩)
    refine ⟨.bool false, ?_, by rw [← has_walk kd t 1, any_none hxs (fun y hy => by have := h3 y hy; simpa [Nd.key] using this)], (hB1.setCell (p := ⟨w.heap.size + 1 + 1, 0, none⟩) (by simp; omega) _).trans (belowK_b (w := w) (Nat.le_refl _) _ D _ _ (by omega) hK' rfl rfl)⟩
    simp [results, Try.results19, go_sem, hc5]
  case stop =>
    rintro D c pre W hD hpre ⟨⟨⟨rfl, y, hy, hk⟩, bR1⟩, hB1⟩ hK
    gi_wp2
    refine ⟨by simp, .inl ⟨_, _, rfl, run_takeDeferred hK, ?_⟩⟩
    have hc5 := cell_kept bR1.cell (grownBy_putObj' _ D (.deferred none)) (fun r e => by cases e; exact ⟨_, hK, rfl⟩)
    refine ⟨.bool true, ?_, by rw [← has_walk kd t 1, any_part hpre hy (by simpa [Nd.key] using hk)], hB1.trans (belowK_b (w := w) (Nat.le_refl _) W D _ _ (by omega) hK rfl rfl)⟩
    simp [results, Try.results19, go_sem, hc5]
end Go.Proofs.Ytbfmaicoefefaaa
