/- Field and Fun, the program's and the document's. -/
import Derived.Test.YtbfmaicoefefaaaTyRec
import Derived.Test.YtbfmaicoefefaaaTyIs
import Derived.Test.YtbfmaicoefefaaaRefL
set_option linter.unusedSimpArgs false
set_option linter.unusedVariables false
namespace Go.Proofs.Ytbfmaicoefefaaa
open Go.RowKit Go.Deep Go.Sort
theorem ty0_in (w : World) : TyIn w ty0 (.int .i64 0) (.int .i64 0) (.string ⟨#[]⟩) (.slice none 0 0) (.slice none 0 0) := ⟨rfl, rfl, ⟨rfl, by decide⟩, ⟨fun s h => (by simp at h), by simp, .inl ⟨none, 0, rfl, rfl⟩⟩, by simp, .inl ⟨none, 0, rfl, rfl⟩⟩
theorem index_below (v : Value) (ss : List ByteArray) (s : ByteArray) (w : World) (h : StrsAt w v ss) :
    Calls Try.prog 61 #[v, .string s] w fun e w' => e = .returned (.int .i64 (placeI ss s)) ∧ Below w.heap.size w w' :=
  (index_any v ss s w h).mono fun _ _ ⟨h1, h2⟩ => ⟨h1, by subst h2; exact Below.refl _ _⟩
theorem place_below (v : Value) (ss : List ByteArray) (s : ByteArray) (w : World) (h : StrsAt w v ss) :
    Calls Try.prog 60 #[v, .string s] w fun e w' => e = .returned (.int .i64 (placeI ss s)) ∧ Below w.heap.size w w' :=
  (place_any v ss s w h).mono fun _ _ ⟨h1, h2⟩ => ⟨h1, by subst h2; exact Below.refl _ _⟩
set_option maxRecDepth 20000 in
set_option maxHeartbeats 4000000 in
theorem pfield_any (t : Ty5) (s : ByteArray) (v0 v1 v2 v3 v4 : Value) (w : World) (hT : TyIn w t v0 v1 v2 v3 v4) :
    Calls Try.prog 31 #[.agg #[v0, v1, v2, v3, v4], .string s] w fun e w' => ∃ u0 u1 u2 u3 u4, e = .returned (.tuple #[.agg #[u0, u1, u2, u3, u4], .bool (fieldT s t).2]) ∧ Below w.heap.size w w' ∧ TyIn w' (fieldT s t).1 u0 u1 u2 u3 u4 := by
  obtain ⟨k, n, nm, ls, ks⟩ := t
  obtain ⟨rfl, rfl, ⟨rfl, hm⟩, hl, hk, h4⟩ := hT
  unfold maxLen at hk
  have hlm := hl.2.1
  unfold maxLen at hlm
  obtain ⟨a4, cap4, rfl⟩ : ∃ a cap, v4 = .slice a ks.length cap := by
    rcases h4 with ⟨a, cap, rfl, rfl⟩ | ⟨b, off, cap, rfl, _⟩
    · exact ⟨a, cap, rfl⟩
    · exact ⟨_, cap, rfl⟩
  have hb2 := two_below w (.cells #[.int .i64 k, .int .i64 n, .string nm, v3, .slice a4 ks.length cap4] 25) (.cells zero5 25)
  have z1 : ((w.alloc (.cells #[.int .i64 k, .int .i64 n, .string nm, v3, .slice a4 ks.length cap4] 25)).alloc (.cells zero5 25)).heap[w.heap.size]? = some (.cells #[.int .i64 k, .int .i64 n, .string nm, v3, .slice a4 ks.length cap4] 25 (0, 0)) := by
    rw [Below.heap_alloc _ _ _ (by simp)]
    exact heap_alloc_new w _
  have z2 : ((w.alloc (.cells #[.int .i64 k, .int .i64 n, .string nm, v3, .slice a4 ks.length cap4] 25)).alloc (.cells zero5 25)).heap[w.heap.size + 1]? = some (.cells zero5 25 (0, 0)) := by
    have := heap_alloc_new (w.alloc (.cells #[.int .i64 k, .int .i64 n, .string nm, v3, .slice a4 ks.length cap4] 25)) (.cells zero5 25)
    have e : (w.alloc (.cells #[.int .i64 k, .int .i64 n, .string nm, v3, .slice a4 ks.length cap4] 25)).heap.size = w.heap.size + 1 := by simp
    rw [e] at this
    exact this
  unfold zero5 at z1 z2 hb2
  have hr := place_range ls s
  have C := Asd.mk (index_below v3 ls s _ (hl.mono hb2))
  have HP : Asd (∀ p, p = placeI ls s → fieldT s (.mk k n nm ls ks) = if k = 8 ∧ 0 ≤ p ∧ p < (ks.length : Int) then (kAt ks p.toNat, true) else (ty0, false)) := ⟨by rintro p rfl; rfl⟩
  generalize hp : placeI ls s = p at hr C
  have HP := Asd.mk (HP.out p hp.symm)
  have HB2 := Asd.mk hb2
  have Z1 := Asd.mk z1
  have Z2 := Asd.mk z2
  have H4 := Asd.mk h4
  clear hb2 z1 z2 h4 hl hm hp
  by_cases hc : k = 8 ∧ 0 ≤ p ∧ p < (ks.length : Int)
  · obtain ⟨rfl, hp0, hp1⟩ := hc
    obtain ⟨i, rfl⟩ : ∃ i : Nat, p = (i : Int) := ⟨p.toNat, by omega⟩
    have hi : i < ks.length := by omega
    rw [HP.out, if_pos ⟨rfl, by omega, by omega⟩]
    rcases H4.out with ⟨_, _, e, e'⟩ | ⟨b, off, cap, e, hrow⟩
    · rw [e'] at hi
      exact absurd hi (Nat.not_lt_zero _)
    obtain ⟨rfl, rfl⟩ : a4 = some ⟨b, off, none⟩ ∧ cap4 = cap := by simpa using e
    obtain ⟨x0, x1, x2, x3, x4, c0, c1, c2, c3, c4, ht⟩ := hrow.at hi
    obtain ⟨k', n', nm', a', l', cc', a'', l'', cc'', rfl, rfl, rfl, rfl, rfl⟩ := ht.form
    have HT := Asd.mk ht
    have HC := Asd.mk (And.intro c0 (And.intro c1 (And.intro c2 (And.intro c3 c4))))
    clear ht c0 c1 c2 c3 c4 hrow e HP
    go_enter Try.func31, Try.ntmps31
    go_wp2_with (go_at_call 61; refine C.out.mono ?_; clear C; rintro e w2 ⟨rfl, hb3⟩; have HW := Asd.mk (HB2.out.trans (hb3.mono HB2.out.size)); have y1 := (hb3.block _ (Array.getElem?_eq_some_iff.1 Z1.out).1).trans Z1.out; have y2 := (hb3.block _ (Array.getElem?_eq_some_iff.1 Z2.out).1).trans Z2.out; clear hb3; have q0 := box_cell (i := 0) y1 rfl; have q4 := box_cell (i := 4) y1 rfl; have c0 := cell_below HW.out HC.out.1; have c1 := cell_below HW.out HC.out.2.1; have c2 := cell_below HW.out HC.out.2.2.1; have c3 := cell_below HW.out HC.out.2.2.2.1; have c4 := cell_below HW.out HC.out.2.2.2.2; have f0 : w2.frozen? ⟨w.heap.size + 1, 0, none⟩ = false := (by simp [World.frozen?, y2]); have f1 : w2.frozen? ⟨w.heap.size + 1, 1, none⟩ = false := (by simp [World.frozen?, y2]); have f2 : w2.frozen? ⟨w.heap.size + 1, 2, none⟩ = false := (by simp [World.frozen?, y2]); have f3 : w2.frozen? ⟨w.heap.size + 1, 3, none⟩ = false := (by simp [World.frozen?, y2]); have f4 : w2.frozen? ⟨w.heap.size + 1, 4, none⟩ = false := (by simp [World.frozen?, y2]); have x0 := box_cell (i := 0) y2 rfl; have x1 := box_cell (i := 1) y2 rfl; have x2 := box_cell (i := 2) y2 rfl; have x3 := box_cell (i := 3) y2 rfl; have x4 := box_cell (i := 4) y2 rfl)
    refine ty_ret y2 rfl (fun W hW hg => ?_)
    have z0 := box_cell (i := 0) hW rfl
    have z1 := box_cell (i := 1) hW rfl
    have z2 := box_cell (i := 2) hW rfl
    have z3 := box_cell (i := 3) hW rfl
    have z4 := box_cell (i := 4) hW rfl
    have hB := HW.out.grown hg HW.out.size (fun j e => by cases e; omega)
    refine bodyPost_ret (v := .tuple #[.agg #[.int .i64 k', .int .i64 n', .string nm', .slice a' l' cc', .slice a'' l'' cc''], .bool true]) (by simp [results, Try.results31, go_sem, z0, z1, z2, z3, z4]) rfl ?_
    exact ⟨_, _, _, _, _, rfl, hB, HT.out.mono hB⟩
  · rw [HP.out, if_neg hc]
    go_enter Try.func31, Try.ntmps31
    have hq : ¬ k = 8 ∨ (k = 8 ∧ p < 0) ∨ (k = 8 ∧ 0 ≤ p ∧ (ks.length : Int) ≤ p) := by omega
    clear hc HP H4
    rcases hq with hq | ⟨rfl, hq⟩ | ⟨rfl, hq, hq2⟩
    all_goals
      go_wp2_with (go_at_call 61; refine C.out.mono ?_; clear C; rintro e w2 ⟨rfl, hb3⟩; have HW := Asd.mk (HB2.out.trans (hb3.mono HB2.out.size)); have y1 := (hb3.block _ (Array.getElem?_eq_some_iff.1 Z1.out).1).trans Z1.out; have y2 := (hb3.block _ (Array.getElem?_eq_some_iff.1 Z2.out).1).trans Z2.out; clear hb3; have q0 := box_cell (i := 0) y1 rfl; have q4 := box_cell (i := 4) y1 rfl; have f0 : w2.frozen? ⟨w.heap.size + 1, 0, none⟩ = false := (by simp [World.frozen?, y2]); have f1 : w2.frozen? ⟨w.heap.size + 1, 1, none⟩ = false := (by simp [World.frozen?, y2]); have f2 : w2.frozen? ⟨w.heap.size + 1, 2, none⟩ = false := (by simp [World.frozen?, y2]); have f3 : w2.frozen? ⟨w.heap.size + 1, 3, none⟩ = false := (by simp [World.frozen?, y2]); have f4 : w2.frozen? ⟨w.heap.size + 1, 4, none⟩ = false := (by simp [World.frozen?, y2]); have x0 := box_cell (i := 0) y2 rfl; have x1 := box_cell (i := 1) y2 rfl; have x2 := box_cell (i := 2) y2 rfl; have x3 := box_cell (i := 3) y2 rfl; have x4 := box_cell (i := 4) y2 rfl)
      refine ty_ret y2 rfl (fun W hW hg => ?_)
      have z0 := box_cell (i := 0) hW rfl
      have z1 := box_cell (i := 1) hW rfl
      have z2 := box_cell (i := 2) hW rfl
      have z3 := box_cell (i := 3) hW rfl
      have z4 := box_cell (i := 4) hW rfl
      have hB := HW.out.grown hg HW.out.size (fun j e => by cases e; omega)
      refine bodyPost_ret (v := .tuple #[.agg zero5, .bool false]) (by simp [results, Try.results31, go_sem, z0, z1, z2, z3, z4, zero5]) rfl ?_
      exact ⟨_, _, _, _, _, rfl, hB, ty0_in _⟩
set_option maxRecDepth 20000 in
set_option maxHeartbeats 4000000 in
theorem rfield_any (t : Ty5) (s : ByteArray) (v0 v1 v2 v3 v4 : Value) (w : World) (hT : TyIn w t v0 v1 v2 v3 v4) :
    Calls Try.prog 32 #[.agg #[v0, v1, v2, v3, v4], .string s] w fun e w' => ∃ u0 u1 u2 u3 u4, e = .returned (.tuple #[.agg #[u0, u1, u2, u3, u4], .bool (fieldT s t).2]) ∧ Below w.heap.size w w' ∧ TyIn w' (fieldT s t).1 u0 u1 u2 u3 u4 := by
  obtain ⟨k, n, nm, ls, ks⟩ := t
  obtain ⟨rfl, rfl, ⟨rfl, hm⟩, hl, hk, h4⟩ := hT
  unfold maxLen at hk
  have hlm := hl.2.1
  unfold maxLen at hlm
  obtain ⟨a4, cap4, rfl⟩ : ∃ a cap, v4 = .slice a ks.length cap := by
    rcases h4 with ⟨a, cap, rfl, rfl⟩ | ⟨b, off, cap, rfl, _⟩
    · exact ⟨a, cap, rfl⟩
    · exact ⟨_, cap, rfl⟩
  have hb2 := two_below w (.cells #[.int .i64 k, .int .i64 n, .string nm, v3, .slice a4 ks.length cap4] 25) (.cells zero5 25)
  have z1 : ((w.alloc (.cells #[.int .i64 k, .int .i64 n, .string nm, v3, .slice a4 ks.length cap4] 25)).alloc (.cells zero5 25)).heap[w.heap.size]? = some (.cells #[.int .i64 k, .int .i64 n, .string nm, v3, .slice a4 ks.length cap4] 25 (0, 0)) := by
    rw [Below.heap_alloc _ _ _ (by simp)]
    exact heap_alloc_new w _
  have z2 : ((w.alloc (.cells #[.int .i64 k, .int .i64 n, .string nm, v3, .slice a4 ks.length cap4] 25)).alloc (.cells zero5 25)).heap[w.heap.size + 1]? = some (.cells zero5 25 (0, 0)) := by
    have := heap_alloc_new (w.alloc (.cells #[.int .i64 k, .int .i64 n, .string nm, v3, .slice a4 ks.length cap4] 25)) (.cells zero5 25)
    have e : (w.alloc (.cells #[.int .i64 k, .int .i64 n, .string nm, v3, .slice a4 ks.length cap4] 25)).heap.size = w.heap.size + 1 := by simp
    rw [e] at this
    exact this
  unfold zero5 at z1 z2 hb2
  have hr := place_range ls s
  have C := Asd.mk (place_below v3 ls s _ (hl.mono hb2))
  have HP : Asd (∀ p, p = placeI ls s → fieldT s (.mk k n nm ls ks) = if k = 8 ∧ 0 ≤ p ∧ p < (ks.length : Int) then (kAt ks p.toNat, true) else (ty0, false)) := ⟨by rintro p rfl; rfl⟩
  generalize hp : placeI ls s = p at hr C
  have HP := Asd.mk (HP.out p hp.symm)
  have HB2 := Asd.mk hb2
  have Z1 := Asd.mk z1
  have Z2 := Asd.mk z2
  have H4 := Asd.mk h4
  clear hb2 z1 z2 h4 hl hm hp
  by_cases hc : k = 8 ∧ 0 ≤ p ∧ p < (ks.length : Int)
  · obtain ⟨rfl, hp0, hp1⟩ := hc
    obtain ⟨i, rfl⟩ : ∃ i : Nat, p = (i : Int) := ⟨p.toNat, by omega⟩
    have hi : i < ks.length := by omega
    rw [HP.out, if_pos ⟨rfl, by omega, by omega⟩]
    rcases H4.out with ⟨_, _, e, e'⟩ | ⟨b, off, cap, e, hrow⟩
    · rw [e'] at hi
      exact absurd hi (Nat.not_lt_zero _)
    obtain ⟨rfl, rfl⟩ : a4 = some ⟨b, off, none⟩ ∧ cap4 = cap := by simpa using e
    obtain ⟨x0, x1, x2, x3, x4, c0, c1, c2, c3, c4, ht⟩ := hrow.at hi
    obtain ⟨k', n', nm', a', l', cc', a'', l'', cc'', rfl, rfl, rfl, rfl, rfl⟩ := ht.form
    have HT := Asd.mk ht
    have HC := Asd.mk (And.intro c0 (And.intro c1 (And.intro c2 (And.intro c3 c4))))
    clear ht c0 c1 c2 c3 c4 hrow e HP
    go_enter Try.func32, Try.ntmps32
    go_wp2_with (go_at_call 60; refine C.out.mono ?_; clear C; rintro e w2 ⟨rfl, hb3⟩; have HW := Asd.mk (HB2.out.trans (hb3.mono HB2.out.size)); have y1 := (hb3.block _ (Array.getElem?_eq_some_iff.1 Z1.out).1).trans Z1.out; have y2 := (hb3.block _ (Array.getElem?_eq_some_iff.1 Z2.out).1).trans Z2.out; clear hb3; have q0 := box_cell (i := 0) y1 rfl; have q4 := box_cell (i := 4) y1 rfl; have c0 := cell_below HW.out HC.out.1; have c1 := cell_below HW.out HC.out.2.1; have c2 := cell_below HW.out HC.out.2.2.1; have c3 := cell_below HW.out HC.out.2.2.2.1; have c4 := cell_below HW.out HC.out.2.2.2.2; have f0 : w2.frozen? ⟨w.heap.size + 1, 0, none⟩ = false := (by simp [World.frozen?, y2]); have f1 : w2.frozen? ⟨w.heap.size + 1, 1, none⟩ = false := (by simp [World.frozen?, y2]); have f2 : w2.frozen? ⟨w.heap.size + 1, 2, none⟩ = false := (by simp [World.frozen?, y2]); have f3 : w2.frozen? ⟨w.heap.size + 1, 3, none⟩ = false := (by simp [World.frozen?, y2]); have f4 : w2.frozen? ⟨w.heap.size + 1, 4, none⟩ = false := (by simp [World.frozen?, y2]); have x0 := box_cell (i := 0) y2 rfl; have x1 := box_cell (i := 1) y2 rfl; have x2 := box_cell (i := 2) y2 rfl; have x3 := box_cell (i := 3) y2 rfl; have x4 := box_cell (i := 4) y2 rfl)
    refine ty_ret y2 rfl (fun W hW hg => ?_)
    have z0 := box_cell (i := 0) hW rfl
    have z1 := box_cell (i := 1) hW rfl
    have z2 := box_cell (i := 2) hW rfl
    have z3 := box_cell (i := 3) hW rfl
    have z4 := box_cell (i := 4) hW rfl
    have hB := HW.out.grown hg HW.out.size (fun j e => by cases e; omega)
    refine bodyPost_ret (v := .tuple #[.agg #[.int .i64 k', .int .i64 n', .string nm', .slice a' l' cc', .slice a'' l'' cc''], .bool true]) (by simp [results, Try.results32, go_sem, z0, z1, z2, z3, z4]) rfl ?_
    exact ⟨_, _, _, _, _, rfl, hB, HT.out.mono hB⟩
  · rw [HP.out, if_neg hc]
    go_enter Try.func32, Try.ntmps32
    have hq : ¬ k = 8 ∨ (k = 8 ∧ p < 0) ∨ (k = 8 ∧ 0 ≤ p ∧ (ks.length : Int) ≤ p) := by omega
    clear hc HP H4
    rcases hq with hq | ⟨rfl, hq⟩ | ⟨rfl, hq, hq2⟩
    all_goals
      go_wp2_with (go_at_call 60; refine C.out.mono ?_; clear C; rintro e w2 ⟨rfl, hb3⟩; have HW := Asd.mk (HB2.out.trans (hb3.mono HB2.out.size)); have y1 := (hb3.block _ (Array.getElem?_eq_some_iff.1 Z1.out).1).trans Z1.out; have y2 := (hb3.block _ (Array.getElem?_eq_some_iff.1 Z2.out).1).trans Z2.out; clear hb3; have q0 := box_cell (i := 0) y1 rfl; have q4 := box_cell (i := 4) y1 rfl; have f0 : w2.frozen? ⟨w.heap.size + 1, 0, none⟩ = false := (by simp [World.frozen?, y2]); have f1 : w2.frozen? ⟨w.heap.size + 1, 1, none⟩ = false := (by simp [World.frozen?, y2]); have f2 : w2.frozen? ⟨w.heap.size + 1, 2, none⟩ = false := (by simp [World.frozen?, y2]); have f3 : w2.frozen? ⟨w.heap.size + 1, 3, none⟩ = false := (by simp [World.frozen?, y2]); have f4 : w2.frozen? ⟨w.heap.size + 1, 4, none⟩ = false := (by simp [World.frozen?, y2]); have x0 := box_cell (i := 0) y2 rfl; have x1 := box_cell (i := 1) y2 rfl; have x2 := box_cell (i := 2) y2 rfl; have x3 := box_cell (i := 3) y2 rfl; have x4 := box_cell (i := 4) y2 rfl)
      refine ty_ret y2 rfl (fun W hW hg => ?_)
      have z0 := box_cell (i := 0) hW rfl
      have z1 := box_cell (i := 1) hW rfl
      have z2 := box_cell (i := 2) hW rfl
      have z3 := box_cell (i := 3) hW rfl
      have z4 := box_cell (i := 4) hW rfl
      have hB := HW.out.grown hg HW.out.size (fun j e => by cases e; omega)
      refine bodyPost_ret (v := .tuple #[.agg zero5, .bool false]) (by simp [results, Try.results32, go_sem, z0, z1, z2, z3, z4, zero5]) rfl ?_
      exact ⟨_, _, _, _, _, rfl, hB, ty0_in _⟩
set_option maxRecDepth 20000 in
set_option maxHeartbeats 4000000 in
theorem pfun_any (t t' : Ty5) (v0 v1 v2 v3 v4 u0 u1 u2 u3 u4 : Value) (w : World) (hT : TyIn w t v0 v1 v2 v3 v4) (hU : TyIn w t' u0 u1 u2 u3 u4) :
    Calls Try.prog 33 #[.agg #[v0, v1, v2, v3, v4], .agg #[u0, u1, u2, u3, u4]] w fun e w' => ∃ x0 x1 x2 x3 x4, e = .returned (.agg #[x0, x1, x2, x3, x4]) ∧ Below w.heap.size w w' ∧ TyIn w' (.mk 7 0 ⟨#[]⟩ [] [t, t']) x0 x1 x2 x3 x4 := by
  obtain ⟨k', n', nm', a', l', cc', a'', l'', cc'', rfl, rfl, rfl, rfl, rfl⟩ := hT.form
  obtain ⟨k1, n1, nm1, a1, l1, cc1, a2, l2, cc2, rfl, rfl, rfl, rfl, rfl⟩ := hU.form
  have HT := Asd.mk hT
  have HU := Asd.mk hU
  clear hT hU
  go_enter Try.func33, Try.ntmps33
  go_wp2
  refine bodyPost_ret (v := .agg #[.int .i64 7, .int .i64 0, .string ⟨#[]⟩, .slice none 0 0, .slice (some ⟨w.heap.size + 3, 0, none⟩) 2 2]) (by simp [results, Try.results33, go_sem]) rfl ?_
  refine ⟨_, _, _, _, _, rfl, by go_grown, rfl, rfl, ⟨rfl, by decide⟩, ⟨fun s h => (by simp at h), by simp, .inl ⟨none, 0, rfl, rfl⟩⟩, by simp [maxLen], .inr ⟨w.heap.size + 3, 0, 2, rfl, ?_⟩⟩
  refine rowIn_of _ _ _ fun j hj => ?_
  have hB : ∀ o1 o2 o3 o4, Below w.heap.size w ((((w.alloc o1).alloc o2).alloc o3).alloc o4) := fun o1 o2 o3 o4 => ((((Below.refl _ _).alloc (Nat.le_refl _) _).alloc (by simp) _).alloc (by simp; omega) _).alloc (by simp; omega) _
  match j, hj with
  | 0, _ => exact ⟨_, _, _, _, _, by simp [go_sem], by simp [go_sem], by simp [go_sem], by simp [go_sem], by simp [go_sem], HT.out.mono (hB _ _ _ _)⟩
  | 1, _ => exact ⟨_, _, _, _, _, by simp [go_sem], by simp [go_sem], by simp [go_sem], by simp [go_sem], by simp [go_sem], HU.out.mono (hB _ _ _ _)⟩
set_option maxRecDepth 20000 in
set_option maxHeartbeats 4000000 in
theorem rfun_any (t t' : Ty5) (v0 v1 v2 v3 v4 u0 u1 u2 u3 u4 : Value) (w : World) (hT : TyIn w t v0 v1 v2 v3 v4) (hU : TyIn w t' u0 u1 u2 u3 u4) :
    Calls Try.prog 34 #[.agg #[v0, v1, v2, v3, v4], .agg #[u0, u1, u2, u3, u4]] w fun e w' => ∃ x0 x1 x2 x3 x4, e = .returned (.agg #[x0, x1, x2, x3, x4]) ∧ Below w.heap.size w w' ∧ TyIn w' (.mk 7 0 ⟨#[]⟩ [] [t, t']) x0 x1 x2 x3 x4 := by
  obtain ⟨k', n', nm', a', l', cc', a'', l'', cc'', rfl, rfl, rfl, rfl, rfl⟩ := hT.form
  obtain ⟨k1, n1, nm1, a1, l1, cc1, a2, l2, cc2, rfl, rfl, rfl, rfl, rfl⟩ := hU.form
  have HT := Asd.mk hT
  have HU := Asd.mk hU
  clear hT hU
  go_enter Try.func34, Try.ntmps34
  go_wp2
  refine bodyPost_ret (v := .agg #[.int .i64 7, .int .i64 0, .string ⟨#[]⟩, .slice none 0 0, .slice (some ⟨w.heap.size + 3, 0, none⟩) 2 2]) (by simp [results, Try.results34, go_sem]) rfl ?_
  refine ⟨_, _, _, _, _, rfl, by go_grown, rfl, rfl, ⟨rfl, by decide⟩, ⟨fun s h => (by simp at h), by simp, .inl ⟨none, 0, rfl, rfl⟩⟩, by simp [maxLen], .inr ⟨w.heap.size + 3, 0, 2, rfl, ?_⟩⟩
  refine rowIn_of _ _ _ fun j hj => ?_
  have hB : ∀ o1 o2 o3 o4, Below w.heap.size w ((((w.alloc o1).alloc o2).alloc o3).alloc o4) := fun o1 o2 o3 o4 => ((((Below.refl _ _).alloc (Nat.le_refl _) _).alloc (by simp) _).alloc (by simp; omega) _).alloc (by simp; omega) _
  match j, hj with
  | 0, _ => exact ⟨_, _, _, _, _, by simp [go_sem], by simp [go_sem], by simp [go_sem], by simp [go_sem], by simp [go_sem], HT.out.mono (hB _ _ _ _)⟩
  | 1, _ => exact ⟨_, _, _, _, _, by simp [go_sem], by simp [go_sem], by simp [go_sem], by simp [go_sem], by simp [go_sem], HU.out.mono (hB _ _ _ _)⟩
theorem rfits_any (t : Ty5) (v0 v1 v2 v3 v4 : Value) (w : World) (hT : TyIn w t v0 v1 v2 v3 v4) (hn : nodesT t ≤ 1000000) :
    Calls Try.prog 25 #[.agg #[v0, v1, v2, v3, v4]] w fun e w' => e = .returned (.bool (decide (nodesT t ≤ 300))) ∧ Below w.heap.size w w' := by
  have hb : Below w.heap.size w (w.alloc (.cells #[v0, v1, v2, v3, v4] 25)) := (Below.refl _ _).alloc (Nat.le_refl _) _
  have C := Asd.mk (rnodes_any (szT t) t v0 v1 v2 v3 v4 _ (Nat.le_refl _) hn (hT.mono hb))
  clear hT
  go_enter Try.func25, Try.ntmps25
  go_wp2_with (go_at_call 16; refine C.out.mono ?_; rintro e w2 ⟨rfl, hb2⟩)
  go_ret
  exact ⟨retB (by rw [Bool.eq_iff_iff]; simp; omega), hb.trans (hb2.mono hb.size)⟩
end Go.Proofs.Ytbfmaicoefefaaa
