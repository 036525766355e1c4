/- ty.Right: each node that a range over a type's nodes is handed is asked. -/
import Derived.Test.YtbfmaicoefefaaaTySnd
import Derived.RangeFuncNested
import Derived.RangeFuncBound
import Derived.RangeFuncCalls
import Derived.RangeFuncLeaves
import Derived.Shelf.Abstract
import Derived.Shelf.RegionOpen
import Derived.OwnWalkIn
import Derived.TacticsInMore
import Derived.LoopNIn
import Derived.LoopIn
set_option linter.unusedSimpArgs false
set_option linter.unusedVariables false
namespace Go.Proofs.Ytbfmaicoefefaaa
open Go.RowKit Go.Shelf
attribute [local go_sem] Oper.semAt_some
mutual
theorem right_walk : ∀ (t : Ty5) (d : Int), (walkT d t).all (fun p => headT p.2) = rightT varB risingB t
  | .mk k n nm ls ks, d => by
    simp only [walkT, rightT, List.all_cons]
    rw [rightL_walk ks, Bool.and_comm]
    rfl
theorem rightL_walk : ∀ (ks : List Ty5) (d : Int), (walkL d ks).all (fun p => headT p.2) = rightL varB risingB ks
  | [], d => rfl
  | t :: r, d => by
    simp only [walkL, rightL, List.all_append]
    rw [right_walk t, rightL_walk r]
end
theorem all_part {w0 : World} {pre : List (Nd w0)} {l : List (Int × Ty5)} {p : Int × Ty5 → Bool} (h : pre.map Nd.key <+: l) {y : Nd w0} (hy : y ∈ pre) (hp : p y.key = false) : l.all p = false := by
  rw [Bool.eq_false_iff]
  intro hc
  rw [List.all_eq_true.1 hc y.key (h.subset (List.mem_map_of_mem hy))] at hp
  cases hp
theorem all_keys {w0 : World} {pre : List (Nd w0)} {l : List (Int × Ty5)} {p : Int × Ty5 → Bool} (h : pre.map Nd.key = l) (hy : ∀ y ∈ pre, p y.key = true) : l.all p = true := by
  rw [← h, List.all_eq_true]
  intro q hq
  obtain ⟨y, hy', rfl⟩ := List.mem_map.1 hq
  exact hy y hy'
theorem sound_nd {w0 : World} (x : Nd w0) (W : World) (hB : Below w0.heap.size w0 W) : Calls Try.prog 48 #[.agg #[x.v0, x.v1, x.v2, x.v3, x.v4]] W fun e w' =>
      e = .returned (.bool (headT x.t)) ∧ Below W.heap.size W w' := by
  obtain ⟨d, ⟨k, n, nm, ls, ks⟩, v0, v1, v2, v3, v4, h⟩ := x
  obtain ⟨rfl, rfl, ⟨rfl, hm⟩, hl, hk, h4⟩ := h
  obtain ⟨_, a3, cap3, rfl⟩ := hl.form
  obtain ⟨a4, cap4, rfl⟩ : ∃ a cap, v4 = .slice a ks.length cap := by
    rcases h4 with ⟨a, cap, rfl, rfl⟩ | ⟨b, off, cap, rfl, _⟩
    · exact ⟨a, cap, rfl⟩
    · exact ⟨_, cap, rfl⟩
  exact sound_any k n nm ls ks.length a3 cap3 a4 cap4 W hm (hl.mono hB) hk
theorem Boxed.below {W W' : World} {B : Nat} {t : TypeId} {v : Value} (h : Boxed W B t v) (hb : Below W.heap.size W W') : Boxed W' B t v := (hb.block B h.lt).trans h
set_option maxRecDepth 100000 in
set_option maxHeartbeats 4000000 in
theorem pright_any (t : Ty5) (v0 v1 v2 v3 v4 : Value) (w : World) (hT : TyIn w t v0 v1 v2 v3 v4) :
    Calls Try.prog 13 #[.agg #[v0, v1, v2, v3, v4]] w fun e w' => e = .returned (.bool (rightT varB risingB t)) ∧ Below w.heap.size w w' := by
  refine (callsIn_wide (n := 8)).1 ?_
  have hf1 : Fence.wide.fn 47 := trivial
  have HT := Asd.mk hT
  clear hT
  refine callsIn_of_wp_marks Try.func13 rfl trivial ?_ rfl
  simp only [Try.ntmps13, List.size_toArray, List.length_cons, List.length_nil, Nat.reduceAdd, Nat.reduceSub, Array.replicate_succ, Array.replicate_zero, List.push_toArray, List.append_toArray, List.nil_append, List.cons_append]
  gi_wp2_with (gi_at_call 47; refine (callsIn_wide.2 (nodes_any v0 v1 v2 v3 v4 _)).mono ?_; rintro e w' ⟨rfl, rfl⟩)
  obtain ⟨w1, hw1⟩ : ∃ w1, w.alloc (.cells #[v0, v1, v2, v3, v4] 25) = w1 := ⟨_, rfl⟩
  have hb1 : Below w.heap.size w w1 := by rw [← hw1]; exact (Below.refl _ w).alloc (Nat.le_refl _) _
  have hs1 : w1.heap.size = w.heap.size + 1 := by rw [← hw1]; simp
  rw [hw1]
  clear hw1
  have bR := boxed_nodesW (Boxed.new w1 4 (.bool false)) v0 v1 v2 v3 v4
  have bA := nodesW_root (w1.alloc (.cells #[.bool false] 4)) v0 v1 v2 v3 v4
  have bP := nodesW_parts (w1.alloc (.cells #[.bool false] 4)) v0 v1 v2 v3 v4
  have hB0 : Below w.heap.size w (nodesW (w1.alloc (.cells #[.bool false] 4)) v0 v1 v2 v3 v4) := below_nodesW (hb1.alloc (by omega) _) (by simp only [World.size_alloc] <;> omega) v0 v1 v2 v3 v4
  have hsz : (nodesW (w1.alloc (.cells #[.bool false] 4)) v0 v1 v2 v3 v4).heap.size = w.heap.size + 5 := by rw [nodesW_size]; simp only [World.size_alloc] <;> omega
  simp only [World.size_alloc, hs1] at bR bA bP
  obtain ⟨W0, hW0⟩ : ∃ W0, nodesW (w1.alloc (.cells #[.bool false] 4)) v0 v1 v2 v3 v4 = W0 := ⟨_, rfl⟩
  rw [hW0] at bR bA bP hB0 hsz ⊢
  clear hW0
  refine wpIn_rangeFunc_ownH rfl (by omega) (gf := 88) (lb := #[.pointer (some ⟨w.heap.size + 1 + 1 + 1, 0, none⟩), .pointer (some ⟨w.heap.size + 1 + 1 + 1 + 1, 0, none⟩)]) rfl trivial (enters_of Try.func88 (by kernel_rfl) rfl)
    (nodes_stops 7 (w.heap.size + 1 + 1 + 1) (w.heap.size + 1 + 1 + 1 + 1) (w.heap.size + 5) (fun k => k = w.heap.size + 1) (fun k h => by omega) w W0 t v0 v1 v2 v3 v4 HT.out hB0 (by omega) bA bP) kpS_t (kpS_b (by omega)) (Below.refl _ _) (fun _ => rfl)
    (fun pre W => (Boxed W (w.heap.size + 1) 4 (.bool false) ∧ (∀ y ∈ pre, headT y.t = true)) ∧ Below w.heap.size w W)
    (fun c pre W => ((c = .ret ∧ ∃ y ∈ pre, headT y.t = false) ∧ Boxed W (w.heap.size + 1) 4 (.bool false)) ∧ Below w.heap.size w W)
    (OwnFrom.and (OwnFrom.and (Own.from (boxed_own _ _ _) _) (ownFrom_pure _ _)) (ownFrom_below (Nat.le_refl _) (by omega)))
    (fun c => OwnFrom.and (OwnFrom.and (ownFrom_pure _ _) (Own.from (boxed_own _ _ _) _)) (ownFrom_below (Nat.le_refl _) (by omega)))
    ⟨⟨bR, by simp⟩, hB0⟩
    (fun x a' W => ∃ Bx, Box5 W Bx x ∧ a' = { tmps := #[.agg #[v0, v1, v2, v3, v4], .pointer (some ⟨w.heap.size, 0, none⟩), .pointer (some ⟨w.heap.size + 1, 0, none⟩), undef, .pointer (some ⟨Bx, 0, none⟩), .agg #[v0, v1, v2, v3, v4], .func (.func 88) #[] #[.pointer (some ⟨w.heap.size + 1 + 1 + 1, 0, none⟩), .pointer (some ⟨w.heap.size + 1 + 1 + 1 + 1, 0, none⟩)], .int .i64 x.d, .agg #[x.v0, x.v1, x.v2, x.v3, x.v4], undef, undef, undef], defers := [] })
    (fun x a' _ X Y row hs hg hr => by
      obtain ⟨Bx, h1, h2⟩ := hs
      exact ⟨Bx, box5_own Bx x () X Y row h1 hg (fun r e => (hr r e).2), h2⟩)
    ?assign ?body ?done ?stop
  case assign =>
    rintro l pre x W K ⟨⟨bR1, h3⟩, hB1⟩ hK
    have hW := hB1.size
    obtain ⟨d, t', u0, u1, u2, u3, u4, hu⟩ := x
    obtain ⟨k', n', nm', a', l', cc', a'', l'', cc'', rfl, rfl, rfl, rfl, rfl⟩ := hu.form
    simp only [Nd.vals, zip2]
    gi_wp2
    exact hK _ _ ((KeepsOthers.alloc _ _).from _) (KpS.of_below hW ((Below.refl _ _).alloc (Nat.le_refl _) _)) ⟨⟨bR1.alloc _, h3⟩, hB1.alloc hB1.size _⟩ ⟨W.heap.size, World.alloc_heap_new W _, rfl⟩
  case body =>
    rintro l pre x a' W hl hr ⟨⟨bR1, h3⟩, hB1⟩ ⟨Bx, bX, rfl⟩ hlt
    have c0 := box_cell (i := 0) bX rfl
    have c1 := box_cell (i := 1) bX rfl
    have c2 := box_cell (i := 2) bX rfl
    have c3 := box_cell (i := 3) bX rfl
    have c4 := box_cell (i := 4) bX rfl
    have h1' : 1 ≤ 8 - 1 - 1 := by omega
    have hf2 : Fence.wide.fn 48 := trivial
    have hf3 : (Fence.wide.inRound l).fn 48 := trivial
    have HS := Asd.mk (sound_nd x W hB1)
    rcases Bool.eq_false_or_eq_true (headT x.t) with hq | hq
    · gi_wp2_with (gi_at_call 48; refine (CallsIn.inRound l (callsIn_wide.2 HS.out)).mono ?_; rintro e w2 ⟨rfl, hb2⟩; rw [hq])
      refine ⟨keepsFrom_below hb2, KpS.of_below hB1.size hb2, ⟨Boxed.below bR1 hb2, fun y hy => ?_⟩, hB1.trans (hb2.mono hB1.size)⟩
      rcases List.mem_append.1 hy with hy | hy
      · exact h3 y hy
      · rw [List.mem_singleton.1 hy]
        exact hq
    · gi_wp2_with (gi_at_call 48; refine (CallsIn.inRound l (callsIn_wide.2 HS.out)).mono ?_; rintro e w2 ⟨rfl, hb2⟩; rw [hq]; have cR := (Boxed.below bR1 hb2).cell; have fR := (Boxed.below bR1 hb2).frozen)
      refine ⟨(keepsFrom_below hb2).trans ((KeepsOthers.setCell _ _ _).from _), ⟨⟨rfl, ⟨_, List.mem_append_right _ (List.mem_singleton.2 rfl), hq⟩⟩, (Boxed.below bR1 hb2).set _⟩, (hB1.trans (hb2.mono hB1.size)).setCell (p := ⟨w.heap.size + 1, 0, none⟩) (by simp) _⟩
  case done =>
    rintro D xs W hD hxs ⟨⟨bR1, h3⟩, hB1⟩ hK
    have cR := bR1.cell
    have fR := bR1.frozen
    gi_wp2
    have hK' := (KeepsOthers.setCell W ⟨w.heap.size + 1, 0, none⟩ (.bool true)).same D _ hK rfl
    refine ⟨by simp, .inl ⟨_, _, rfl, run_takeDeferred hK', ?_⟩⟩
    have hc5 := cell_kept (bR1.set (.bool true)).cell (grownBy_putObj' _ D (.deferred none)) (fun r e => by cases e; exact ⟨_, hK', rfl⟩)
    refine ⟨.bool true, ?_, by rw [← right_walk t 1, all_keys hxs (fun y hy => h3 y hy)], (hB1.setCell (p := ⟨w.heap.size + 1, 0, none⟩) (by simp) _).trans (belowK_b (w := w) (Nat.le_refl _) _ D _ _ (by omega) hK' rfl rfl)⟩
    simp [results, Try.results13, go_sem, hc5]
  case stop =>
    rintro D c pre W hD hpre ⟨⟨⟨rfl, y, hy, hk⟩, bR1⟩, hB1⟩ hK
    gi_wp2
    refine ⟨by simp, .inl ⟨_, _, rfl, run_takeDeferred hK, ?_⟩⟩
    have hc5 := cell_kept bR1.cell (grownBy_putObj' _ D (.deferred none)) (fun r e => by cases e; exact ⟨_, hK, rfl⟩)
    refine ⟨.bool false, ?_, by rw [← right_walk t 1, all_part hpre hy hk], hB1.trans (belowK_b (w := w) (Nat.le_refl _) W D _ _ (by omega) hK rfl rfl)⟩
    simp [results, Try.results13, go_sem, hc5]
end Go.Proofs.Ytbfmaicoefefaaa
