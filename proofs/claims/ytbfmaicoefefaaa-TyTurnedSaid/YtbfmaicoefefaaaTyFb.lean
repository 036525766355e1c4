/- Field of both sides, what it gives read at a world ahead of the call. -/
import Derived.Test.YtbfmaicoefefaaaTyFd
set_option linter.unusedSimpArgs false
set_option linter.unusedVariables false
namespace Go.Proofs.Ytbfmaicoefefaaa
open Go.RowKit Go.Deep Go.Sort
set_option maxRecDepth 20000 in
set_option maxHeartbeats 4000000 in
theorem pfield_base (t : Ty5) (s : ByteArray) (v0 v1 v2 v3 v4 : Value) (W0 w : World) (hT : TyIn W0 t v0 v1 v2 v3 v4) (hB0 : Below W0.heap.size W0 w) :
    Calls Try.prog 31 #[.agg #[v0, v1, v2, v3, v4], .string s] w fun e w' => ∃ u0 u1 u2 u3 u4, e = .returned (.tuple #[.agg #[u0, u1, u2, u3, u4], .bool (fieldT s t).2]) ∧ Below w.heap.size w w' ∧ TyIn W0 (fieldT s t).1 u0 u1 u2 u3 u4 := by
  obtain ⟨k, n, nm, ls, ks⟩ := t
  obtain ⟨rfl, rfl, ⟨rfl, hm⟩, hl, hk, h4⟩ := hT
  unfold maxLen at hk
  have hlm := hl.2.1
  unfold maxLen at hlm
  obtain ⟨a4, cap4, rfl⟩ : ∃ a cap, v4 = .slice a ks.length cap := by
    rcases h4 with ⟨a, cap, rfl, rfl⟩ | ⟨b, off, cap, rfl, _⟩
    · exact ⟨a, cap, rfl⟩
    · exact ⟨_, cap, rfl⟩
  have hb2 := two_below w (.cells #[.int .i64 k, .int .i64 n, .string nm, v3, .slice a4 ks.length cap4] 25) (.cells zero5 25)
  have z1 : ((w.alloc (.cells #[.int .i64 k, .int .i64 n, .string nm, v3, .slice a4 ks.length cap4] 25)).alloc (.cells zero5 25)).heap[w.heap.size]? = some (.cells #[.int .i64 k, .int .i64 n, .string nm, v3, .slice a4 ks.length cap4] 25 (0, 0)) := by
    rw [Below.heap_alloc _ _ _ (by simp)]
    exact heap_alloc_new w _
  have z2 : ((w.alloc (.cells #[.int .i64 k, .int .i64 n, .string nm, v3, .slice a4 ks.length cap4] 25)).alloc (.cells zero5 25)).heap[w.heap.size + 1]? = some (.cells zero5 25 (0, 0)) := by
    have := heap_alloc_new (w.alloc (.cells #[.int .i64 k, .int .i64 n, .string nm, v3, .slice a4 ks.length cap4] 25)) (.cells zero5 25)
    have e : (w.alloc (.cells #[.int .i64 k, .int .i64 n, .string nm, v3, .slice a4 ks.length cap4] 25)).heap.size = w.heap.size + 1 := by simp
    rw [e] at this
    exact this
  unfold zero5 at z1 z2 hb2
  have hr := place_range ls s
  have C := Asd.mk (index_below v3 ls s _ ((hl.mono hB0).mono hb2))
  have HP : Asd (∀ p, p = placeI ls s → fieldT s (.mk k n nm ls ks) = if k = 8 ∧ 0 ≤ p ∧ p < (ks.length : Int) then (kAt ks p.toNat, true) else (ty0, false)) := ⟨by rintro p rfl; rfl⟩
  generalize hp : placeI ls s = p at hr C
  have HP := Asd.mk (HP.out p hp.symm)
  have HB2 := Asd.mk hb2
  have Z1 := Asd.mk z1
  have Z2 := Asd.mk z2
  have H4 := Asd.mk h4
  clear hb2 z1 z2 h4 hl hm hp
  by_cases hc : k = 8 ∧ 0 ≤ p ∧ p < (ks.length : Int)
  · obtain ⟨rfl, hp0, hp1⟩ := hc
    obtain ⟨i, rfl⟩ : ∃ i : Nat, p = (i : Int) := ⟨p.toNat, by omega⟩
    have hi : i < ks.length := by omega
    rw [HP.out, if_pos ⟨rfl, by omega, by omega⟩]
    rcases H4.out with ⟨_, _, e, e'⟩ | ⟨b, off, cap, e, hrow⟩
    · rw [e'] at hi
      exact absurd hi (Nat.not_lt_zero _)
    obtain ⟨rfl, rfl⟩ : a4 = some ⟨b, off, none⟩ ∧ cap4 = cap := by simpa using e
    obtain ⟨x0, x1, x2, x3, x4, c0, c1, c2, c3, c4, ht⟩ := hrow.at hi
    obtain ⟨k', n', nm', a', l', cc', a'', l'', cc'', rfl, rfl, rfl, rfl, rfl⟩ := ht.form
    have c0 := cell_below hB0 c0
    have c1 := cell_below hB0 c1
    have c2 := cell_below hB0 c2
    have c3 := cell_below hB0 c3
    have c4 := cell_below hB0 c4
    have HT := Asd.mk ht
    have HC := Asd.mk (And.intro c0 (And.intro c1 (And.intro c2 (And.intro c3 c4))))
    clear ht c0 c1 c2 c3 c4 hrow e HP
    go_enter Try.func31, Try.ntmps31
    go_wp2_with (go_at_call 61; refine C.out.mono ?_; clear C; rintro e w2 ⟨rfl, hb3⟩; have HW := Asd.mk (HB2.out.trans (hb3.mono HB2.out.size)); have y1 := (hb3.block _ (Array.getElem?_eq_some_iff.1 Z1.out).1).trans Z1.out; have y2 := (hb3.block _ (Array.getElem?_eq_some_iff.1 Z2.out).1).trans Z2.out; clear hb3; have q0 := box_cell (i := 0) y1 rfl; have q4 := box_cell (i := 4) y1 rfl; have c0 := cell_below HW.out HC.out.1; have c1 := cell_below HW.out HC.out.2.1; have c2 := cell_below HW.out HC.out.2.2.1; have c3 := cell_below HW.out HC.out.2.2.2.1; have c4 := cell_below HW.out HC.out.2.2.2.2; have f0 : w2.frozen? ⟨w.heap.size + 1, 0, none⟩ = false := (by simp [World.frozen?, y2]); have f1 : w2.frozen? ⟨w.heap.size + 1, 1, none⟩ = false := (by simp [World.frozen?, y2]); have f2 : w2.frozen? ⟨w.heap.size + 1, 2, none⟩ = false := (by simp [World.frozen?, y2]); have f3 : w2.frozen? ⟨w.heap.size + 1, 3, none⟩ = false := (by simp [World.frozen?, y2]); have f4 : w2.frozen? ⟨w.heap.size + 1, 4, none⟩ = false := (by simp [World.frozen?, y2]); have x0 := box_cell (i := 0) y2 rfl; have x1 := box_cell (i := 1) y2 rfl; have x2 := box_cell (i := 2) y2 rfl; have x3 := box_cell (i := 3) y2 rfl; have x4 := box_cell (i := 4) y2 rfl)
    refine ty_ret y2 rfl (fun W hW hg => ?_)
    have z0 := box_cell (i := 0) hW rfl
    have z1 := box_cell (i := 1) hW rfl
    have z2 := box_cell (i := 2) hW rfl
    have z3 := box_cell (i := 3) hW rfl
    have z4 := box_cell (i := 4) hW rfl
    have hB := HW.out.grown hg HW.out.size (fun j e => by cases e; omega)
    refine bodyPost_ret (v := .tuple #[.agg #[.int .i64 k', .int .i64 n', .string nm', .slice a' l' cc', .slice a'' l'' cc''], .bool true]) (by simp [results, Try.results31, go_sem, z0, z1, z2, z3, z4]) rfl ?_
    exact ⟨_, _, _, _, _, rfl, hB, HT.out⟩
  · rw [HP.out, if_neg hc]
    go_enter Try.func31, Try.ntmps31
    have hq : ¬ k = 8 ∨ (k = 8 ∧ p < 0) ∨ (k = 8 ∧ 0 ≤ p ∧ (ks.length : Int) ≤ p) := by omega
    clear hc HP H4
    rcases hq with hq | ⟨rfl, hq⟩ | ⟨rfl, hq, hq2⟩
    all_goals
      go_wp2_with (go_at_call 61; refine C.out.mono ?_; clear C; rintro e w2 ⟨rfl, hb3⟩; have HW := Asd.mk (HB2.out.trans (hb3.mono HB2.out.size)); have y1 := (hb3.block _ (Array.getElem?_eq_some_iff.1 Z1.out).1).trans Z1.out; have y2 := (hb3.block _ (Array.getElem?_eq_some_iff.1 Z2.out).1).trans Z2.out; clear hb3; have q0 := box_cell (i := 0) y1 rfl; have q4 := box_cell (i := 4) y1 rfl; have f0 : w2.frozen? ⟨w.heap.size + 1, 0, none⟩ = false := (by simp [World.frozen?, y2]); have f1 : w2.frozen? ⟨w.heap.size + 1, 1, none⟩ = false := (by simp [World.frozen?, y2]); have f2 : w2.frozen? ⟨w.heap.size + 1, 2, none⟩ = false := (by simp [World.frozen?, y2]); have f3 : w2.frozen? ⟨w.heap.size + 1, 3, none⟩ = false := (by simp [World.frozen?, y2]); have f4 : w2.frozen? ⟨w.heap.size + 1, 4, none⟩ = false := (by simp [World.frozen?, y2]); have x0 := box_cell (i := 0) y2 rfl; have x1 := box_cell (i := 1) y2 rfl; have x2 := box_cell (i := 2) y2 rfl; have x3 := box_cell (i := 3) y2 rfl; have x4 := box_cell (i := 4) y2 rfl)
      refine ty_ret y2 rfl (fun W hW hg => ?_)
      have z0 := box_cell (i := 0) hW rfl
      have z1 := box_cell (i := 1) hW rfl
      have z2 := box_cell (i := 2) hW rfl
      have z3 := box_cell (i := 3) hW rfl
      have z4 := box_cell (i := 4) hW rfl
      have hB := HW.out.grown hg HW.out.size (fun j e => by cases e; omega)
      refine bodyPost_ret (v := .tuple #[.agg zero5, .bool false]) (by simp [results, Try.results31, go_sem, z0, z1, z2, z3, z4, zero5]) rfl ?_
      exact ⟨_, _, _, _, _, rfl, hB, ty0_in _⟩
set_option maxRecDepth 20000 in
set_option maxHeartbeats 4000000 in
theorem rfield_base (t : Ty5) (s : ByteArray) (v0 v1 v2 v3 v4 : Value) (W0 w : World) (hT : TyIn W0 t v0 v1 v2 v3 v4) (hB0 : Below W0.heap.size W0 w) :
    Calls Try.prog 32 #[.agg #[v0, v1, v2, v3, v4], .string s] w fun e w' => ∃ u0 u1 u2 u3 u4, e = .returned (.tuple #[.agg #[u0, u1, u2, u3, u4], .bool (fieldT s t).2]) ∧ Below w.heap.size w w' ∧ TyIn W0 (fieldT s t).1 u0 u1 u2 u3 u4 := by
  obtain ⟨k, n, nm, ls, ks⟩ := t
  obtain ⟨rfl, rfl, ⟨rfl, hm⟩, hl, hk, h4⟩ := hT
  unfold maxLen at hk
  have hlm := hl.2.1
  unfold maxLen at hlm
  obtain ⟨a4, cap4, rfl⟩ : ∃ a cap, v4 = .slice a ks.length cap := by
    rcases h4 with ⟨a, cap, rfl, rfl⟩ | ⟨b, off, cap, rfl, _⟩
    · exact ⟨a, cap, rfl⟩
    · exact ⟨_, cap, rfl⟩
  have hb2 := two_below w (.cells #[.int .i64 k, .int .i64 n, .string nm, v3, .slice a4 ks.length cap4] 25) (.cells zero5 25)
  have z1 : ((w.alloc (.cells #[.int .i64 k, .int .i64 n, .string nm, v3, .slice a4 ks.length cap4] 25)).alloc (.cells zero5 25)).heap[w.heap.size]? = some (.cells #[.int .i64 k, .int .i64 n, .string nm, v3, .slice a4 ks.length cap4] 25 (0, 0)) := by
    rw [Below.heap_alloc _ _ _ (by simp)]
    exact heap_alloc_new w _
  have z2 : ((w.alloc (.cells #[.int .i64 k, .int .i64 n, .string nm, v3, .slice a4 ks.length cap4] 25)).alloc (.cells zero5 25)).heap[w.heap.size + 1]? = some (.cells zero5 25 (0, 0)) := by
    have := heap_alloc_new (w.alloc (.cells #[.int .i64 k, .int .i64 n, .string nm, v3, .slice a4 ks.length cap4] 25)) (.cells zero5 25)
    have e : (w.alloc (.cells #[.int .i64 k, .int .i64 n, .string nm, v3, .slice a4 ks.length cap4] 25)).heap.size = w.heap.size + 1 := by simp
    rw [e] at this
    exact this
  unfold zero5 at z1 z2 hb2
  have hr := place_range ls s
  have C := Asd.mk (place_below v3 ls s _ ((hl.mono hB0).mono hb2))
  have HP : Asd (∀ p, p = placeI ls s → fieldT s (.mk k n nm ls ks) = if k = 8 ∧ 0 ≤ p ∧ p < (ks.length : Int) then (kAt ks p.toNat, true) else (ty0, false)) := ⟨by rintro p rfl; rfl⟩
  generalize hp : placeI ls s = p at hr C
  have HP := Asd.mk (HP.out p hp.symm)
  have HB2 := Asd.mk hb2
  have Z1 := Asd.mk z1
  have Z2 := Asd.mk z2
  have H4 := Asd.mk h4
  clear hb2 z1 z2 h4 hl hm hp
  by_cases hc : k = 8 ∧ 0 ≤ p ∧ p < (ks.length : Int)
  · obtain ⟨rfl, hp0, hp1⟩ := hc
    obtain ⟨i, rfl⟩ : ∃ i : Nat, p = (i : Int) := ⟨p.toNat, by omega⟩
    have hi : i < ks.length := by omega
    rw [HP.out, if_pos ⟨rfl, by omega, by omega⟩]
    rcases H4.out with ⟨_, _, e, e'⟩ | ⟨b, off, cap, e, hrow⟩
    · rw [e'] at hi
      exact absurd hi (Nat.not_lt_zero _)
    obtain ⟨rfl, rfl⟩ : a4 = some ⟨b, off, none⟩ ∧ cap4 = cap := by simpa using e
    obtain ⟨x0, x1, x2, x3, x4, c0, c1, c2, c3, c4, ht⟩ := hrow.at hi
    obtain ⟨k', n', nm', a', l', cc', a'', l'', cc'', rfl, rfl, rfl, rfl, rfl⟩ := ht.form
    have c0 := cell_below hB0 c0
    have c1 := cell_below hB0 c1
    have c2 := cell_below hB0 c2
    have c3 := cell_below hB0 c3
    have c4 := cell_below hB0 c4
    have HT := Asd.mk ht
    have HC := Asd.mk (And.intro c0 (And.intro c1 (And.intro c2 (And.intro c3 c4))))
    clear ht c0 c1 c2 c3 c4 hrow e HP
    go_enter Try.func32, Try.ntmps32
    go_wp2_with (go_at_call 60; refine C.out.mono ?_; clear C; rintro e w2 ⟨rfl, hb3⟩; have HW := Asd.mk (HB2.out.trans (hb3.mono HB2.out.size)); have y1 := (hb3.block _ (Array.getElem?_eq_some_iff.1 Z1.out).1).trans Z1.out; have y2 := (hb3.block _ (Array.getElem?_eq_some_iff.1 Z2.out).1).trans Z2.out; clear hb3; have q0 := box_cell (i := 0) y1 rfl; have q4 := box_cell (i := 4) y1 rfl; have c0 := cell_below HW.out HC.out.1; have c1 := cell_below HW.out HC.out.2.1; have c2 := cell_below HW.out HC.out.2.2.1; have c3 := cell_below HW.out HC.out.2.2.2.1; have c4 := cell_below HW.out HC.out.2.2.2.2; have f0 : w2.frozen? ⟨w.heap.size + 1, 0, none⟩ = false := (by simp [World.frozen?, y2]); have f1 : w2.frozen? ⟨w.heap.size + 1, 1, none⟩ = false := (by simp [World.frozen?, y2]); have f2 : w2.frozen? ⟨w.heap.size + 1, 2, none⟩ = false := (by simp [World.frozen?, y2]); have f3 : w2.frozen? ⟨w.heap.size + 1, 3, none⟩ = false := (by simp [World.frozen?, y2]); have f4 : w2.frozen? ⟨w.heap.size + 1, 4, none⟩ = false := (by simp [World.frozen?, y2]); have x0 := box_cell (i := 0) y2 rfl; have x1 := box_cell (i := 1) y2 rfl; have x2 := box_cell (i := 2) y2 rfl; have x3 := box_cell (i := 3) y2 rfl; have x4 := box_cell (i := 4) y2 rfl)
    refine ty_ret y2 rfl (fun W hW hg => ?_)
    have z0 := box_cell (i := 0) hW rfl
    have z1 := box_cell (i := 1) hW rfl
    have z2 := box_cell (i := 2) hW rfl
    have z3 := box_cell (i := 3) hW rfl
    have z4 := box_cell (i := 4) hW rfl
    have hB := HW.out.grown hg HW.out.size (fun j e => by cases e; omega)
    refine bodyPost_ret (v := .tuple #[.agg #[.int .i64 k', .int .i64 n', .string nm', .slice a' l' cc', .slice a'' l'' cc''], .bool true]) (by simp [results, Try.results32, go_sem, z0, z1, z2, z3, z4]) rfl ?_
    exact ⟨_, _, _, _, _, rfl, hB, HT.out⟩
  · rw [HP.out, if_neg hc]
    go_enter Try.func32, Try.ntmps32
    have hq : ¬ k = 8 ∨ (k = 8 ∧ p < 0) ∨ (k = 8 ∧ 0 ≤ p ∧ (ks.length : Int) ≤ p) := by omega
    clear hc HP H4
    rcases hq with hq | ⟨rfl, hq⟩ | ⟨rfl, hq, hq2⟩
    all_goals
      go_wp2_with (go_at_call 60; refine C.out.mono ?_; clear C; rintro e w2 ⟨rfl, hb3⟩; have HW := Asd.mk (HB2.out.trans (hb3.mono HB2.out.size)); have y1 := (hb3.block _ (Array.getElem?_eq_some_iff.1 Z1.out).1).trans Z1.out; have y2 := (hb3.block _ (Array.getElem?_eq_some_iff.1 Z2.out).1).trans Z2.out; clear hb3; have q0 := box_cell (i := 0) y1 rfl; have q4 := box_cell (i := 4) y1 rfl; have f0 : w2.frozen? ⟨w.heap.size + 1, 0, none⟩ = false := (by simp [World.frozen?, y2]); have f1 : w2.frozen? ⟨w.heap.size + 1, 1, none⟩ = false := (by simp [World.frozen?, y2]); have f2 : w2.frozen? ⟨w.heap.size + 1, 2, none⟩ = false := (by simp [World.frozen?, y2]); have f3 : w2.frozen? ⟨w.heap.size + 1, 3, none⟩ = false := (by simp [World.frozen?, y2]); have f4 : w2.frozen? ⟨w.heap.size + 1, 4, none⟩ = false := (by simp [World.frozen?, y2]); have x0 := box_cell (i := 0) y2 rfl; have x1 := box_cell (i := 1) y2 rfl; have x2 := box_cell (i := 2) y2 rfl; have x3 := box_cell (i := 3) y2 rfl; have x4 := box_cell (i := 4) y2 rfl)
      refine ty_ret y2 rfl (fun W hW hg => ?_)
      have z0 := box_cell (i := 0) hW rfl
      have z1 := box_cell (i := 1) hW rfl
      have z2 := box_cell (i := 2) hW rfl
      have z3 := box_cell (i := 3) hW rfl
      have z4 := box_cell (i := 4) hW rfl
      have hB := HW.out.grown hg HW.out.size (fun j e => by cases e; omega)
      refine bodyPost_ret (v := .tuple #[.agg zero5, .bool false]) (by simp [results, Try.results32, go_sem, z0, z1, z2, z3, z4, zero5]) rfl ?_
      exact ⟨_, _, _, _, _, rfl, hB, ty0_in _⟩
end Go.Proofs.Ytbfmaicoefefaaa
