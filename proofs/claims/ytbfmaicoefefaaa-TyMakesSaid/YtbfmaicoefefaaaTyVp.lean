/- ty.Vars: the names are collected in a range over the nodes, sorted, and compacted. -/
import Derived.Test.YtbfmaicoefefaaaTyVm
import Derived.Test.YtbfmaicoefefaaaTyH
import Derived.Test.YtbfmaicoefefaaaTyRec
import Derived.Maps.AppendAt
import Derived.RangeFuncNested
import Derived.RangeFuncBound
import Derived.RangeFuncCalls
import Derived.RangeFuncLeaves
import Derived.Shelf.Abstract
import Derived.Shelf.RegionOpen
import Derived.OwnWalkIn
import Derived.TacticsInMore
import Derived.LoopNIn
import Derived.LoopIn
set_option linter.unusedSimpArgs false
set_option linter.unusedVariables false
namespace Go.Proofs.Ytbfmaicoefefaaa
open Go.RowKit Go.Shelf Go.Sort
attribute [local go_sem] Oper.semAt_some
theorem Box5.name {W : World} {B : Nat} {w0 : World} {x : Nd w0} (h : Box5 W B x) : W.cell? ⟨B, 2, none⟩ = some (.string x.t.nm) := by
  obtain ⟨d, ⟨k', n', nm', ls', ks'⟩, u0, u1, u2, u3, u4, hu⟩ := x
  have h1 := box_cell (i := 2) h rfl
  obtain ⟨_, _, ⟨rfl, _⟩, _⟩ := hu
  exact h1
/-- An append to the names, and its store: the blocks of types lie as they lay. -/
theorem kp_append {W w1 : World} {n0 B k : Nat} {v u : Value} {xs : List Value} {tmp : Obj} (hv : Boxed W B 22 v) (hrow : W.ownsRow n0 9 1 v k xs) (hgrow : (W.alloc tmp).grownBy w1 v.ownBlock) (hb : Below n0 W (w1.setCell ⟨B, 0, none⟩ u)) :
    KpS n0 (fun _ => False) W (w1.setCell ⟨B, 0, none⟩ u) := by
  refine ⟨hb, fun j vs fr hj _ => ?_⟩
  have hjl : j < W.heap.size := (Array.getElem?_eq_some_iff.1 hj).1
  have h1 : j ≠ B := fun e => by
    subst e
    rw [show W.heap[j]? = _ from hv] at hj
    simp at hj
  have h2 : some j ≠ v.ownBlock := fun e => by
    rcases hrow.2 with ⟨rfl, _⟩ | ⟨g, cap, cur, rfl, _, hg, _⟩
    · cases e
    · have e : j = g := by simpa [Value.ownBlock] using e
      subst e
      rw [hg] at hj
      simp at hj
  rw [Below.heap_setCell _ _ _ _ (by exact h1), hgrow.block j (by simp; omega) h2, Below.heap_alloc _ _ _ hjl]
  exact hj
theorem sort_grown {W : World} {g n : Nat} (d : Array (List UInt8)) : W.grownBy (putRow encStr (Sort.ahead W n) g 0 d) (some g) := by
  have := grownBy_sorted (w := W) (g := g) (n := n) (os := #[]) d
  rwa [grow_empty] at this
theorem strs_map (N : List ByteArray) : N.map Value.string = (N.map fun s => s.data.toList).map encStr := by
  rw [List.map_map]
  apply List.map_congr_left
  intro s _
  show Value.string s = encStr s.data.toList
  unfold encStr
  rw [show (⟨s.data.toList.toArray⟩ : ByteArray) = s from toB_data s]
theorem strsAt_put {W : World} {g m cap D : Nat} {o : Obj} {L : List ByteArray} (h : StrsAt W (.slice (some ⟨g, 0, none⟩) m cap) L) (hD : D ≠ g) : StrsAt (W.putObj D o) (.slice (some ⟨g, 0, none⟩) m cap) L := by
  obtain ⟨h1, h2, h3⟩ := h
  refine ⟨h1, h2, ?_⟩
  rcases h3 with h3 | ⟨b, off, cap', e, hb, hc⟩
  · exact .inl h3
  · obtain ⟨⟨rfl, rfl⟩, h5, rfl⟩ : (g = b ∧ 0 = off) ∧ m = L.length ∧ cap = cap' := by simpa using e
    refine .inr ⟨g, 0, cap, e, by simpa using hb, fun j hj => ?_⟩
    exact (World.cell?_of_block (w := W) (World.putObj_heap_other (fun e => hD e.symm))).trans (hc j hj)
/-- slices.Sort at the names: the same row holds them sorted. -/
theorem sort_call {W : World} {base g cap : Nat} {ss : List (List UInt8)} (h : W.ownsRow base 9 1 (.slice (some ⟨g, 0, none⟩) ss.length cap) ss.length (ss.map encStr)) (hn : ss.length ≤ 1000000) :
    Calls Try.prog 51 #[.slice (some ⟨g, 0, none⟩) ss.length cap] W fun e W1 => e = .returned (.tuple #[]) ∧ W.grownBy W1 (some g) ∧
      W1.ownsRow base 9 1 (.slice (some ⟨g, 0, none⟩) ss.length cap) ss.length ((ss.mergeSort fun x y => decide (x ≤ y)).map encStr) := by
  rcases h.2 with ⟨e, _⟩ | ⟨g', cap', cur, e, hbase, hb, h1, h2, h3, h4⟩
  · cases e
  obtain ⟨rfl, rfl⟩ : g = g' ∧ cap = cap' := by simpa using e
  refine (lb_slices_Sort_string g 0 cap ss W (holds_of_block hb (by simpa using h4)) (Array.getElem?_eq_some_iff.1 hb).1 (by omega)).mono ?_
  rintro e W1 ⟨rfl, n, os, rfl⟩
  exact ⟨rfl, grownBy_sorted _, ownsRow_sorted (by simp) hbase hb h1 h2 h3⟩
/-- slices.Compact at a row of the call's own. -/
theorem compact_call {W : World} {base g cap : Nat} {zs : List (List UInt8)} (h : W.ownsRow base 9 1 (.slice (some ⟨g, 0, none⟩) zs.length cap) zs.length (zs.map encStr)) (hn : zs.length ≤ 1000000) (hsz : ∀ s ∈ zs, s.length ≤ maxLen) :
    Calls Try.prog 52 #[.slice (some ⟨g, 0, none⟩) zs.length cap] W fun e W1 => e = .returned (.slice (some ⟨g, 0, none⟩) (Lib.compact zs).length cap) ∧ W.grownBy W1 (some g) ∧
      StrsAt W1 (.slice (some ⟨g, 0, none⟩) (Lib.compact zs).length cap) ((Lib.compact zs).map toB) := by
  rcases h.2 with ⟨e, _⟩ | ⟨g', cap', cur, e, hbase, hb, h1, h2, h3, h4⟩
  · cases e
  obtain ⟨rfl, rfl⟩ : g = g' ∧ cap = cap' := by simpa using e
  have hg := (Array.getElem?_eq_some_iff.1 hb).1
  have hle := Lib.compact_length_le zs
  refine (lb_slices_Compact_string g 0 cap zs W (holds_of_block hb (by simpa using h4)) (by omega) h1).mono ?_
  rintro e W1 ⟨rfl, q, hw⟩
  have hX : (Lib.compact zs ++ List.replicate (zs.length - (Lib.compact zs).length) []).length = zs.length := by simp; omega
  have o1 := ownsRow_sorted (n := q) (os := #[]) hX hbase hb h1 h2 h3
  rw [grow_empty, ← hw] at o1
  have hg1 : W.grownBy W1 (some g) := by rw [hw]; exact sort_grown _
  refine ⟨rfl, hg1, fun s hs => ?_, by simp; unfold maxLen; omega, .inr ⟨g, 0, cap, by rw [List.length_map], Nat.lt_of_lt_of_le hg hg1.size, fun j hj => ?_⟩⟩
  · obtain ⟨l, hl, rfl⟩ := List.mem_map.1 hs
    exact hsz l ((compact_mem zs l).1 hl)
  · have hj' : j < (Lib.compact zs).length := by simpa using hj
    rw [Nat.zero_add, o1.cellAt j (by omega), stAt_get hj, List.getElem?_map, List.getElem?_append_left hj', List.getElem?_eq_getElem hj', List.getElem_map]
    rfl
set_option maxRecDepth 100000 in
set_option maxHeartbeats 4000000 in
theorem pvars_any (t : Ty5) (v0 v1 v2 v3 v4 : Value) (w : World) (hT : TyIn w t v0 v1 v2 v3 v4) (hn : nodesT t ≤ 1000000) :
    Calls Try.prog 22 #[.agg #[v0, v1, v2, v3, v4]] w fun e w' => ∃ v L, e = .returned v ∧ Below w.heap.size w w' ∧ StrsAt w' v L ∧ VarsIs (namesT t) L ∧ L.length ≤ 1000000 := by
  refine (callsIn_wide (n := 8)).1 ?_
  have hf1 : Fence.wide.fn 47 := trivial
  have HT := Asd.mk hT
  have HN := Asd.mk hn
  clear hT hn
  refine callsIn_of_wp_marks Try.func22 rfl trivial ?_ rfl
  simp only [Try.ntmps22, List.size_toArray, List.length_cons, List.length_nil, Nat.reduceAdd, Nat.reduceSub, Array.replicate_succ, Array.replicate_zero, List.push_toArray, List.append_toArray, List.nil_append, List.cons_append]
  gi_wp2_with (gi_at_call 47; refine (callsIn_wide.2 (nodes_any v0 v1 v2 v3 v4 _)).mono ?_; rintro e w' ⟨rfl, rfl⟩)
  have bS := boxed_nodesW (Boxed.new (w.alloc (.cells #[v0, v1, v2, v3, v4] 25)) 22 (.slice none 0 0)) v0 v1 v2 v3 v4
  have bA := nodesW_root ((w.alloc (.cells #[v0, v1, v2, v3, v4] 25)).alloc (.cells #[.slice none 0 0] 22)) v0 v1 v2 v3 v4
  have bP := nodesW_parts ((w.alloc (.cells #[v0, v1, v2, v3, v4] 25)).alloc (.cells #[.slice none 0 0] 22)) v0 v1 v2 v3 v4
  have hB0 : Below w.heap.size w (nodesW ((w.alloc (.cells #[v0, v1, v2, v3, v4] 25)).alloc (.cells #[.slice none 0 0] 22)) v0 v1 v2 v3 v4) := below_nodesW (((Below.refl _ w).alloc (Nat.le_refl _) _).alloc (by simp) _) (by simp only [World.size_alloc] <;> omega) v0 v1 v2 v3 v4
  have hsz : (nodesW ((w.alloc (.cells #[v0, v1, v2, v3, v4] 25)).alloc (.cells #[.slice none 0 0] 22)) v0 v1 v2 v3 v4).heap.size = w.heap.size + 5 := by rw [nodesW_size]; simp only [World.size_alloc] <;> omega
  simp only [World.size_alloc] at bS bA bP
  obtain ⟨W0, hW0⟩ : ∃ W0, nodesW ((w.alloc (.cells #[v0, v1, v2, v3, v4] 25)).alloc (.cells #[.slice none 0 0] 22)) v0 v1 v2 v3 v4 = W0 := ⟨_, rfl⟩
  rw [hW0] at bS bA bP hB0 hsz ⊢
  clear hW0
  obtain ⟨i0, hi, hz0, hz1, hz2⟩ := info_parts info_strT
  refine wpIn_rangeFunc_ownH rfl (by omega) (gf := 88) (lb := #[.pointer (some ⟨w.heap.size + 1 + 1 + 1, 0, none⟩), .pointer (some ⟨w.heap.size + 1 + 1 + 1 + 1, 0, none⟩)]) rfl trivial (enters_of Try.func88 (by kernel_rfl) rfl)
    (nodes_stops 7 (w.heap.size + 1 + 1 + 1) (w.heap.size + 1 + 1 + 1 + 1) (w.heap.size + 5) (fun _ => False) (fun k h => h.elim) w W0 t v0 v1 v2 v3 v4 HT.out hB0 (by omega) bA bP) kpS_t (kpS_b (by omega)) (Below.refl _ _) (fun _ => rfl)
    (fun pre W => (∃ v, Boxed W (w.heap.size + 1) 22 v ∧ W.ownsRow w.heap.size 9 1 v (fnames pre).length ((fnames pre).map Value.string) ∧ True) ∧ Below w.heap.size w W)
    (fun _ _ _ => False)
    (OwnFrom.and (Own.from (holdsRow_own w.heap.size (w.heap.size + 1) 22 9 1 (fun pre => (fnames pre).length) (fun pre => (fnames pre).map Value.string) (fun _ _ => True)) _) (ownFrom_below (Nat.le_refl _) (by omega)))
    (fun _ _ _ _ _ hs _ _ => hs)
    ⟨⟨_, bS, World.ownsRow_nil _ _ _ _, trivial⟩, hB0⟩
    (fun x a' W => ∃ Bx, Box5 W Bx x ∧ a' = { tmps := #[.agg #[v0, v1, v2, v3, v4], .pointer (some ⟨w.heap.size, 0, none⟩), .slice none 0 0, .pointer (some ⟨w.heap.size + 1, 0, none⟩), undef, .pointer (some ⟨Bx, 0, none⟩), .agg #[v0, v1, v2, v3, v4], .func (.func 88) #[] #[.pointer (some ⟨w.heap.size + 1 + 1 + 1, 0, none⟩), .pointer (some ⟨w.heap.size + 1 + 1 + 1 + 1, 0, none⟩)], .int .i64 x.d, .agg #[x.v0, x.v1, x.v2, x.v3, x.v4], undef, undef, undef, undef, undef, undef, undef, undef, undef, undef, undef, undef], defers := [] })
    (fun x a' _ X Y row hs hg hr => by
      obtain ⟨Bx, h1, h2⟩ := hs
      exact ⟨Bx, box5_own Bx x () X Y row h1 hg (fun r e => (hr r e).2), h2⟩)
    ?assign ?body ?done ?stop
  case assign =>
    rintro l pre x W K ⟨⟨v, bV, oV, _⟩, hB1⟩ hK
    have hW := hB1.size
    obtain ⟨d, t', u0, u1, u2, u3, u4, hu⟩ := x
    obtain ⟨k', n', nm', a', l', cc', a'', l'', cc'', rfl, rfl, rfl, rfl, rfl⟩ := hu.form
    simp only [Nd.vals, zip2]
    gi_wp2
    exact hK _ _ ((KeepsOthers.alloc _ _).from _) (KpS.of_below hW ((Below.refl _ _).alloc (Nat.le_refl _) _)) ⟨⟨v, bV.alloc _, oV.alloc _, trivial⟩, hB1.alloc hB1.size _⟩ ⟨W.heap.size, World.alloc_heap_new W _, rfl⟩
  case body =>
    rintro l pre x a' W hl hr ⟨⟨v, bV, oV, _⟩, hB1⟩ ⟨Bx, bX, rfl⟩ hlt
    have cX := bX.kind
    have cN := bX.name
    have cV := bV.cell
    have fV := bV.frozen
    have hlen : (fnames pre).length ≤ 1000000 := by have := HN.out; have := fnames_le pre; rw [walk_len] at hlt; omega
    have hsW := hB1.size
    have HF : Asd (fnames (pre ++ [x]) = fnames pre ++ (if x.t.isVar = true then [x.t.nm] else [])) := ⟨fnames_snoc pre x⟩
    rcases Bool.eq_false_or_eq_true (x.t.k == 6) with hq | hq
    · have hF : Asd (fnames (pre ++ [x]) = fnames pre ++ [x.t.nm]) := ⟨by rw [HF.out, if_pos (show x.t.isVar = true from hq)]⟩
      gi_wp2_with (gi_at_builtin; refine wpListIn_append_own _ rfl _ _ 22 rfl w.heap.size 9 i0 (.string ⟨#[]⟩) 1 16 Try.underlying22 hi hz0 hz1 hz2 rfl (by decide) _ _ _ rfl (oV.alloc _) ⟨W.heap.size, 0, none⟩ 1 1 [.string x.t.nm] rfl rfl (news_one W #[.string x.t.nm] _) (by intro u hu; simp at hu; subst hu; rfl) (by unfold maxLen; omega) (by omega) (by simp; omega) ?_; intro v' w1 hown' hgrow _; obtain ⟨g', cap', rfl⟩ := ownsRow_succ hown'; obtain ⟨hv1, hv2, hr2, hk2, hb2⟩ := bV.appended (by decide) oV hB1.size (by omega) hown' hgrow; have hkp := Asd.mk (kp_append bV oV hgrow hb2); have hc1 := hv1.cell; have hf1 := hv1.frozen)
      refine ⟨hk2.from _, hkp.out, ⟨⟨_, hv2, ?_, trivial⟩, hB1.trans hb2⟩⟩
      rw [hF.out, List.length_append, List.map_append]
      exact hr2
    · have hF : Asd (fnames (pre ++ [x]) = fnames pre) := ⟨by rw [HF.out, if_neg (by rw [show x.t.isVar = false from hq]; simp), List.append_nil]⟩
      gi_wp2
      refine ⟨KeepsFrom.refl _ _, KpS.refl _ _ _, ⟨⟨v, bV, ?_, trivial⟩, hB1⟩⟩
      rw [hF.out]
      exact oV
  case done =>
    rintro D xs W hD hxs ⟨⟨v, bV, oV, _⟩, hB1⟩ hK
    have hF := fnames_keys hxs
    have hsz1 : ∀ s ∈ fnames xs, s.size ≤ maxLen := fun s hs => fnames_size hs
    have hlen : (fnames xs).length ≤ 1000000 := by have := HN.out; have := fnames_le xs; have := len_keys hxs; omega
    rw [hF] at oV hsz1 hlen
    have hV := vars_sorted (namesT t)
    have HZ : ∀ s ∈ ((namesT t).map fun s => s.data.toList).mergeSort (fun x y => decide (x ≤ y)), s.length ≤ maxLen := fun s hs => by
      obtain ⟨q, hq, rfl⟩ := List.mem_map.1 ((List.mergeSort_perm _ _).subset hs)
      exact hsz1 q hq
    have HV := Asd.mk hV
    rw [strs_map] at oV
    have hl1 : (namesT t).length = ((namesT t).map fun s => s.data.toList).length := by simp
    rw [hl1] at oV hlen
    obtain ⟨ss, hss⟩ : ∃ ss, ss = (namesT t).map fun s => s.data.toList := ⟨_, rfl⟩
    rw [← hss] at oV hlen HV HZ
    clear hl1 hss hV hsz1 hF
    have cV := bV.cell
    have hf2 : Fence.wide.fn 51 := trivial
    have hf3 : Fence.wide.fn 52 := trivial
    have hDB := hB1.size
    rcases oV.2 with ⟨rfl, h0⟩ | ⟨g, cap, cur, rfl, hbase, hb, h1, h2, h3, h4⟩
    · obtain rfl : ss = [] := List.length_eq_zero_iff.1 h0
      gi_wp2_with (first
        | (gi_at_call 51; refine (callsIn_wide.2 (lb_slices_Sort_string_none none 0 W)).mono ?_; rintro e W1 ⟨rfl, rfl⟩)
        | (gi_at_call 52; refine (callsIn_wide.2 (lb_slices_Compact_string_empty none 0 W1)).mono ?_; rintro e W2 ⟨rfl, rfl⟩))
      refine ⟨by simp, .inl ⟨_, _, rfl, run_takeDeferred hK, ?_⟩⟩
      exact ⟨_, results_tmp rfl _ _ _, _, [], rfl, hB1.trans (belowK_b (w := w) (Nat.le_refl _) _ D _ _ (by omega) hK rfl rfl), ⟨fun s h => (by simp at h), by simp, .inl ⟨none, 0, rfl, rfl⟩⟩, by simpa [Lib.compact, Lib.compactUpTo] using HV.out, by simp⟩
    · have hgB := bV.not_row (by decide) oV
      have hgD : D ≠ g := fun e => by
        rw [e, hb] at hK
        cases hK
      have HS := Asd.mk (sort_call oV hlen)
      have HOV := Asd.mk oV
      have hzl : (ss.mergeSort fun x y => decide (x ≤ y)).length = ss.length := List.length_mergeSort _
      clear h4 oV
      gi_wp2_with (first
        | (gi_at_call 51; refine (callsIn_wide.2 HS.out).mono ?_; clear HS; rintro e W1 ⟨rfl, g1, o1⟩; have b1 := bV.kept g1 hgB; have c1 := b1.cell; have hK1 := (g1.block D (Array.getElem?_eq_some_iff.1 hK).1 (by simpa using hgD)).trans hK; rw [← hzl] at o1; have HC := Asd.mk (compact_call o1 (by rw [hzl]; exact hlen) HZ); rw [hzl] at HC; clear o1)
        | (gi_at_call 52; refine (callsIn_wide.2 HC.out).mono ?_; clear HC; rintro e W2 ⟨rfl, g2, o2⟩))
      have hK2 := (g2.block D (Array.getElem?_eq_some_iff.1 hK1).1 (by simpa using hgD)).trans hK1
      refine ⟨by simp, .inl ⟨_, _, rfl, run_takeDeferred hK2, ?_⟩⟩
      have hB2 := (hB1.grown g1 hDB (fun j e => by cases e; exact hbase)).grown g2 (Nat.le_trans hDB g1.size) (fun j e => by cases e; exact hbase)
      have hput := belowK_b (w := w) (Nat.le_refl _) W2 D (.deferred (some [])) (.deferred none) (by omega) hK2 rfl rfl
      refine ⟨_, results_tmp rfl _ _ _, _, _, rfl, hB2.trans hput, ?_, HV.out, ?_⟩
      · exact strsAt_put o2 hgD
      · rw [List.length_map]
        have := Lib.compact_length_le (ss.mergeSort fun x y => decide (x ≤ y))
        omega
  case stop =>
    rintro D c pre W _ _ h _
    exact h.elim
end Go.Proofs.Ytbfmaicoefefaaa
