/- The program's iterator over a type's nodes (ty.nodes; tree.Nodes, its closure, tree.visit, for types): what a range over it is handed, for every loop body. -/
import Derived.Test.YtbfmaicoefefaaaTyN
import Derived.RangeFuncNested
import Derived.RangeFuncBound
import Derived.RangeFuncCalls
import Derived.RangeFuncLeaves
import Derived.Shelf.Abstract
import Derived.Shelf.RegionOpen
import Derived.OwnWalkIn
import Derived.TacticsInMore
import Derived.LoopNIn
import Derived.LoopIn
set_option linter.unusedSimpArgs false
set_option linter.unusedVariables false
namespace Go.Proofs.Ytbfmaicoefefaaa
open Go.RowKit Go.Shelf
attribute [local go_sem] Oper.semAt_some
/-- What a round is handed: a depth and a node with its five values, as they read in the world w0. -/
structure Nd (w0 : World) where
  d : Int
  t : Ty5
  v0 : Value
  v1 : Value
  v2 : Value
  v3 : Value
  v4 : Value
  h : TyIn w0 t v0 v1 v2 v3 v4
def Nd.key {w0 : World} (x : Nd w0) : Int × Ty5 := (x.d, x.t)
def Nd.vals {w0 : World} (x : Nd w0) : Array Value := #[.int .i64 x.d, .agg #[x.v0, x.v1, x.v2, x.v3, x.v4]]
mutual
/-- The nodes of a type, each with its depth, in the order in which they come. -/
def walkT (d : Int) : Ty5 → List (Int × Ty5)
  | .mk k n nm ls ks => (d, .mk k n nm ls ks) :: walkL (wrap64 (d + 1)) ks
def walkL (d : Int) : List Ty5 → List (Int × Ty5)
  | [] => []
  | t :: r => walkT d t ++ walkL d r
end
theorem walkL_app (d : Int) : ∀ a b : List Ty5, walkL d (a ++ b) = walkL d a ++ walkL d b
  | [], b => by simp [walkL]
  | t :: r, b => by
    rw [List.cons_append]
    simp only [walkL]
    rw [walkL_app d r b, List.append_assoc]
theorem walkL_step (d : Int) {ks : List Ty5} {j : Nat} (h : j < ks.length) : walkL d (ks.take (j + 1)) = walkL d (ks.take j) ++ walkT d (kAt ks j) := by
  rw [take_kAt h, walkL_app]
  simp [walkL]
theorem walkL_part (d : Int) (ks : List Ty5) (j : Nat) : walkL d (ks.take j) <+: walkL d ks := by
  have := walkL_app d (ks.take j) (ks.drop j)
  rw [List.take_append_drop] at this
  rw [this]
  exact List.prefix_append _ _
/-- What a round that goes on keeps: all below n0; and of the blocks of types all but those in S. -/
def KpS (n0 : Nat) (S : Nat → Prop) (A B : World) : Prop := Below n0 A B ∧ ∀ k vs fr, A.heap[k]? = some (.cells vs 25 fr) → ¬ S k → B.heap[k]? = some (.cells vs 25 fr)
theorem kpS_t {n0 : Nat} {S : Nat → Prop} {A B C : World} (h : KpS n0 S A B) (k : KpS n0 S B C) : KpS n0 S A C := ⟨h.1.trans k.1, fun i vs fr hi hs => k.2 i vs fr (h.2 i vs fr hi hs) hs⟩
theorem kpS_b {n0 : Nat} {S : Nat → Prop} {w : World} (hn : n0 ≤ w.heap.size) (W : World) (l : Nat) (o o' : Obj) (hl : w.heap.size ≤ l) (h : W.heap[l]? = some o) (hc : o.isCells = false) (hw : o.isWalk = false) : KpS n0 S W (W.putObj l o') :=
  ⟨belowK_b hn W l o o' hl h hc hw, fun k vs fr hk _ => by
    by_cases e : k = l
    · subst e
      rw [h] at hk
      cases hk
      cases hc
    · exact (World.putObj_heap_other e).trans hk⟩
theorem KpS.refl (n0 : Nat) (S : Nat → Prop) (A : World) : KpS n0 S A A := ⟨Below.refl _ _, fun _ _ _ h _ => h⟩
/-- What lays blocks alone keeps. -/
theorem KpS.of_below {n0 : Nat} {S : Nat → Prop} {A B : World} (hn : n0 ≤ A.heap.size) (h : Below A.heap.size A B) : KpS n0 S A B := ⟨h.mono hn, fun k vs fr hk _ => (h.block k (Array.getElem?_eq_some_iff.1 hk).1).trans hk⟩
/-- A store into a box of S keeps. -/
theorem KpS.store {n0 : Nat} {S : Nat → Prop} (A : World) {b i : Nat} (hS : S b) (hn : n0 ≤ b) (v : Value) : KpS n0 S A (A.setCell ⟨b, i, none⟩ v) :=
  ⟨(Below.refl _ _).setCell (p := ⟨b, i, none⟩) hn v, fun k vs fr hk hs => (Below.heap_setCell _ _ _ _ (fun e => hs (by rw [e]; exact hS))).trans hk⟩
theorem keepsFrom_below {B : Nat} {A C : World} (h : Below A.heap.size A C) : KeepsFrom B A C := ⟨h.size, fun k o _ hk _ => (h.block k (Array.getElem?_eq_some_iff.1 hk).1).trans hk⟩
theorem box_cell {W : World} {B : Nat} {vs : Array Value} {t : TypeId} {i : Nat} {v : Value} (h : W.heap[B]? = some (.cells vs t (0, 0))) (hi : vs[i]? = some v) : W.cell? ⟨B, i, none⟩ = some v := by
  simp [World.cell?, h, hi]
/-- The five values' forms. -/
theorem TyIn.form {w : World} : ∀ {t : Ty5} {v0 v1 v2 v3 v4 : Value}, TyIn w t v0 v1 v2 v3 v4 → ∃ (k n : Int) (nm : ByteArray) (a : Option Addr) (l c : Nat) (a' : Option Addr) (l' c' : Nat), v0 = .int .i64 k ∧ v1 = .int .i64 n ∧ v2 = .string nm ∧ v3 = .slice a l c ∧ v4 = .slice a' l' c'
  | .mk k n nm ls ks, v0, v1, v2, v3, v4, h => by
    obtain ⟨h0, h1, ⟨h2, _⟩, ⟨_, _, h3⟩, _, h5⟩ := h
    obtain ⟨a, l, c, e3⟩ : ∃ a l c, v3 = .slice a l c := by
      rcases h3 with ⟨a, cap, rfl, _⟩ | ⟨b, off, cap, rfl, _⟩
      · exact ⟨_, _, _, rfl⟩
      · exact ⟨_, _, _, rfl⟩
    obtain ⟨a', l', c', e4⟩ : ∃ a l c, v4 = .slice a l c := by
      rcases h5 with ⟨a, cap, rfl, _⟩ | ⟨b, off, cap, rfl, _⟩
      · exact ⟨_, _, _, rfl⟩
      · exact ⟨_, _, _, rfl⟩
    exact ⟨_, _, _, _, _, _, _, _, _, h0, h1, h2, e3, e4⟩
theorem zip2 (T : Array Value) (p q : Nat) (a b : Value) : (#[p, q].zip #[a, b]).foldl (fun t x => t.setIfInBounds x.fst x.snd) T = (T.setIfInBounds p a).setIfInBounds q b := by
  simp
theorem room_of_none {F : Fence} (hd : F.depth = none) (k : Nat) : F.room k := fun d h => by rw [hd] at h; cases h
theorem roundIn_anyDepth {F : Fence} (hd : F.depth = none) {m m' : Nat} {P : Program} {l : Nat} {f : FuncId} {tmps : Array Value} {assign body : Code} {w : World} {R : Ending → World → Prop}
    (h : RoundIn F m P l f tmps assign body w R) : RoundIn F m' P l f tmps assign body w R := ⟨h.1, fun c cs _ => h.2 c cs (room_of_none hd _)⟩
theorem yieldAt_anyDepth {F : Fence} (hd : F.depth = none) {m : Nat} (m' : Nat) {P : Program} {l : Nat} {args : Array Value} {W : World} {R : Ending → World → Prop} (h : YieldAt F m P l args W R) : YieldAt F m' P l args W R := by
  obtain ⟨fn, tmps, assign, body, hy, hR⟩ := h
  exact ⟨fn, tmps, assign, body, hy, roundIn_anyDepth hd hR⟩
theorem depth_wide : Fence.wide.depth = none := rfl
set_option maxHeartbeats 1000000 in
/-- ty.parts: the type is boxed; its kinds are loaded. -/
theorem parts_any (v0 v1 v2 v3 v4 : Value) (w : World) : Calls Try.prog 76 #[.agg #[v0, v1, v2, v3, v4]] w fun e w' =>
    e = .returned v4 ∧ w' = w.alloc (.cells #[v0, v1, v2, v3, v4] 25) := by
  go_enter Try.func76, Try.ntmps76
  go_wp2
  go_ret
  exact ⟨rfl, rfl⟩
set_option maxRecDepth 100000 in
set_option maxHeartbeats 4000000 in
/-- ty.visit, by induction on the type's size, for every loop body: all nodes have come, or a round has said 'no more'. -/
theorem visit_in (w0 : World) (l N c : Nat) (S : Nat → Prop) (hS : ∀ k, S k → k < c) (J Jx : List (Nd w0) → World → Prop)
    (hJa : ∀ pre W o, J pre W → J pre (W.alloc o))
    (hY : ∀ m pre x W, J pre W → pre.length < N → YieldAt Fence.wide m Try.prog l (Nd.vals x) W fun e W' =>
      (e = .returned (.bool true) ∧ J (pre ++ [x]) W' ∧ KpS w0.heap.size S W W') ∨ (e = .returned (.bool false) ∧ Jx (pre ++ [x]) W')) :
    ∀ (f : Nat) (t : Ty5) (d : Int) (v0 v1 v2 v3 v4 : Value) (n : Nat) (pre : List (Nd w0)) (W : World), szT t ≤ f → TyIn w0 t v0 v1 v2 v3 v4 → J pre W → Below w0.heap.size w0 W → c ≤ W.heap.size → pre.length + (walkT d t).length ≤ N →
    CallsIn Fence.wide n Try.prog 89 #[.int .i64 d, .agg #[v0, v1, v2, v3, v4], .func (.func 76) #[] #[], .func (.yield l) #[] #[]] W fun e W' =>
      (e = .returned (.bool true) ∧ ∃ xs : List (Nd w0), xs.map Nd.key = walkT d t ∧ J (pre ++ xs) W' ∧ Below w0.heap.size W W') ∨
      (e = .returned (.bool false) ∧ ∃ q : List (Nd w0), q.map Nd.key <+: walkT d t ∧ Jx (pre ++ q) W')
  | 0, t, _, _, _, _, _, _, _, _, _, h, _, _, _, _, _ => absurd (szT_pos t) (by omega)
  | f + 1, .mk k n nm ls ks, d, v0, v1, v2, v3, v4, m, pre, W, hz, hT, hJ, hB, hc, hN => by
    have hdd : ∀ k : Nat, (Fence.wide.depth.isSome = true → 1 ≤ k) := fun k h => by rw [depth_wide] at h; cases h
    have hfv : Fence.wide.fn 89 := trivial
    have hfp : Fence.wide.fn 76 := trivial
    have HT := Asd.mk hT
    obtain ⟨rfl, rfl, ⟨rfl, hm⟩, hl, hk, h4⟩ := hT
    unfold maxLen at hk
    obtain ⟨a4, cap4, e4⟩ : ∃ a cap, v4 = .slice a ks.length cap := by
      rcases h4 with ⟨a, cap, rfl, rfl⟩ | ⟨b, off, cap, rfl, _⟩
      · exact ⟨a, cap, rfl⟩
      · exact ⟨_, cap, rfl⟩
    subst e4
    simp only [walkT, List.length_cons] at hN
    have HK : Asd (walkT d (.mk k n nm ls ks) = (d, .mk k n nm ls ks) :: walkL (wrap64 (d + 1)) ks) := ⟨by simp [walkT]⟩
    have IH := Asd.mk (visit_in w0 l N c S hS J Jx hJa hY f)
    -- the box of the parameter; the first round
    obtain ⟨x, hx⟩ : ∃ x : Nd w0, x = ⟨d, .mk k n nm ls ks, .int .i64 k, .int .i64 n, .string nm, v3, .slice a4 ks.length cap4, HT.out⟩ := ⟨_, rfl⟩
    have hW1 : Below W.heap.size W (W.alloc (.cells #[.int .i64 k, .int .i64 n, .string nm, v3, .slice a4 ks.length cap4] 25)) := (Below.refl _ _).alloc (Nat.le_refl _) _
    have hbox : (W.alloc (.cells #[.int .i64 k, .int .i64 n, .string nm, v3, .slice a4 ks.length cap4] 25)).heap[W.heap.size]? = some (.cells #[.int .i64 k, .int .i64 n, .string nm, v3, .slice a4 ks.length cap4] 25 (0, 0)) := World.alloc_heap_new W _
    have hy1 := hY (m - 1) pre x _ (hJa pre W (.cells #[.int .i64 k, .int .i64 n, .string nm, v3, .slice a4 ks.length cap4] 25) hJ) (by omega)
    have hy2 := YieldAt.mono (R' := fun e W' => (e = .returned (.bool true) ∧ Asd (J (pre ++ [x]) W' ∧ Below w0.heap.size W W') ∧ W'.cell? ⟨W.heap.size, 0, none⟩ = some (.int .i64 k) ∧ W'.cell? ⟨W.heap.size, 1, none⟩ = some (.int .i64 n) ∧ W'.cell? ⟨W.heap.size, 2, none⟩ = some (.string nm) ∧ W'.cell? ⟨W.heap.size, 3, none⟩ = some v3 ∧ W'.cell? ⟨W.heap.size, 4, none⟩ = some (.slice a4 ks.length cap4)) ∨ (e = .returned (.bool false) ∧ Asd (Jx (pre ++ [x]) W'))) hy1 (fun e W' h => h.elim
      (fun ⟨he, hj, hk⟩ => .inl (by
        have hb := hk.2 _ _ _ hbox (fun h => by have := hS _ h; omega)
        exact ⟨he, ⟨hj, (hW1.mono hB.size).trans hk.1⟩, box_cell (i := 0) hb rfl, box_cell (i := 1) hb rfl, box_cell (i := 2) hb rfl, box_cell (i := 3) hb rfl, box_cell (i := 4) hb rfl⟩)) (fun ⟨he, hj⟩ => .inr ⟨he, ⟨hj⟩⟩))
    clear hy1 hbox
    subst hx
    dsimp only [Nd.vals] at hy2
    obtain ⟨fn, tmps, assign, body, hy, hR⟩ := hy2
    have HN := Asd.mk hN
    have HZ := Asd.mk hz
    have H4 := Asd.mk h4
    have HB := Asd.mk hB
    have HC := Asd.mk hc
    have HW1 := Asd.mk hW1
    have HJ := Asd.mk hJ
    have HYY := Asd.mk hY
    clear hN hz h4 hB hc hW1 hJ hm hl hY
    refine callsIn_of_wp Try.func89 rfl trivial ?_ rfl
    simp only [Try.ntmps89, List.size_toArray, List.length_cons, List.length_nil, Nat.reduceAdd, Nat.reduceSub, Array.replicate_succ, Array.replicate_zero, List.push_toArray, List.append_toArray, List.nil_append, List.cons_append]
    gi_wp2_with ((try refine ⟨hdd _, ?_⟩); first | (gi_at_call 76; refine (callsIn_wide.2 (parts_any _ _ _ _ _ _)).mono ?_; rintro e w' ⟨rfl, rfl⟩) | (refine hR.mono ?_; clear hR; rintro e W2 (⟨rfl, HJ2, c0, c1, c2, c3, c4⟩ | ⟨rfl, HJ2⟩)))
    · -- the node's kinds
      have HJ3 := Asd.mk (hJa _ _ (.cells #[.int .i64 k, .int .i64 n, .string nm, v3, .slice a4 ks.length cap4] 25) HJ2.out.1)
      have HB4 := Asd.mk (HJ2.out.2.alloc (Nat.le_trans HB.out.size HJ2.out.2.size) (.cells #[.int .i64 k, .int .i64 n, .string nm, v3, .slice a4 ks.length cap4] 25))
      clear c0 c1 c2 c3 c4
      gi_loopw [20] (fun i wr => ∃ j : Nat, j ≤ ks.length ∧ i = .int .i64 j ∧ Asd (∃ xs : List (Nd w0), xs.map Nd.key = (d, Ty5.mk k n nm ls ks) :: walkL (wrap64 (d + 1)) (ks.take j) ∧ J (pre ++ xs) wr ∧ Below w0.heap.size W wr)) (fun i _ => ks.length - (intOf i).toNat)
      case atStart => exact ⟨0, by omega, rfl, ⟨_, by simp [walkL, Nd.key], HJ3.out, HB4.out⟩⟩
      case round =>
        obtain ⟨j, hj, rfl, HX⟩ := hrel
        by_cases hlt : j < ks.length
        · rcases H4.out with ⟨_, _, _, e⟩ | ⟨b, off, cap, e, hr⟩
          · rw [e] at hlt
            exact absurd hlt (Nat.not_lt_zero _)
          obtain ⟨rfl, rfl⟩ : a4 = some ⟨b, off, none⟩ ∧ cap4 = cap := by simpa using e
          obtain ⟨xs, hxs, hJx, hBx⟩ := HX.out
          have hBw := HB.out.trans hBx
          obtain ⟨x0, x1, x2, x3, x4, c0, c1, c2, c3, c4', ht⟩ := hr.at hlt
          have c0 := cell_below hBw c0
          have c1 := cell_below hBw c1
          have c2 := cell_below hBw c2
          have c3 := cell_below hBw c3
          have c4' := cell_below hBw c4'
          obtain ⟨k', n', nm', a', l', cc', a'', l'', cc'', rfl, rfl, rfl, rfl, rfl⟩ := ht.form
          have hsz : szT (kAt ks j) ≤ f := by have := HZ.out; have := szT_kid (k := k) (n := n) (nm := nm) (ls := ls) hlt; omega
          have hB3 : Below w0.heap.size wr (wr.alloc (.cells #[.int .i64 k', .int .i64 n', .string nm', .slice a' l' cc', .slice a'' l'' cc''] 25)) := (Below.refl _ _).alloc hBw.size _
          have hlen : (pre ++ xs).length + (walkT (wrap64 (d + 1)) (kAt ks j)).length ≤ N := by
            have h1 := HN.out
            have h2 := congrArg List.length hxs
            have h3 := congrArg List.length (walkL_step (wrap64 (d + 1)) hlt)
            have h5 := (walkL_part (wrap64 (d + 1)) ks (j + 1)).length_le
            simp only [List.length_map, List.length_cons, List.length_append] at h2 h3 ⊢
            omega
          have hC := Asd.mk (IH.out (kAt ks j) (wrap64 (d + 1)) (.int .i64 k') (.int .i64 n') (.string nm') (.slice a' l' cc') (.slice a'' l'' cc'') (m - 1) (pre ++ xs) (wr.alloc (.cells #[.int .i64 k', .int .i64 n', .string nm', .slice a' l' cc', .slice a'' l'' cc''] 25)) hsz ht (hJa _ _ _ hJx) (hBw.trans hB3) (by have := HC.out; have := hBx.size; have := hB3.size; omega) hlen)
          have HXS := Asd.mk hxs
          have HB3 := Asd.mk hB3
          have HBX := Asd.mk hBx
          clear hxs hB3 hBx hBw hJx ht hr e HX hlen hsz
          gi_wp2_with ((try refine ⟨hdd _, ?_⟩); gi_at_call 89; refine hC.out.mono ?_; clear hC; rintro e W3 (⟨rfl, ys, hk3, hJ3, hb3⟩ | ⟨rfl, q, hq, hx3⟩))
          · have HK3 := Asd.mk hk3
            have HJ3 := Asd.mk hJ3
            have HBB := Asd.mk hb3
            clear hk3 hJ3 hb3
            go_roundw
            case rel => exact ⟨j + 1, by omega, by go_num, ⟨xs ++ ys, by rw [List.map_append, HXS.out, HK3.out, walkL_step _ hlt, List.cons_append], by rw [← List.append_assoc]; exact HJ3.out, HBX.out.trans (HB3.out.trans HBB.out)⟩⟩
            case measure => simp [intOf]; omega
          · go_ret
            refine .inr ⟨rfl, xs ++ q, ?_, by rw [← List.append_assoc]; exact hx3⟩
            rw [List.map_append, HXS.out, HK.out, List.cons_append]
            refine List.cons_prefix_cons.2 ⟨rfl, ?_⟩
            refine List.IsPrefix.trans ?_ (walkL_part (wrap64 (d + 1)) ks (j + 1))
            rw [walkL_step _ hlt]
            exact (List.prefix_append_right_inj _).2 hq
        · have : j = ks.length := by omega
          subst this
          obtain ⟨xs, hxs, hJx, hBx⟩ := HX.out
          clear HX
          gi_wp2
          go_ret
          exact .inl ⟨rfl, xs, by rw [hxs, HK.out, List.take_length], hJx, hBx⟩
    · go_ret
      exact .inr ⟨rfl, _, by rw [HK.out]; simp [Nd.key], HJ2.out⟩
/-- The world with what ty.nodes lays: its own box, and the two that the closure captures. -/
def nodesW (w : World) (v0 v1 v2 v3 v4 : Value) : World :=
  ((w.alloc (.cells #[v0, v1, v2, v3, v4] 25)).alloc (.cells #[v0, v1, v2, v3, v4] 25)).alloc (.cells #[.func (.func 76) #[] #[]] 82)
theorem nodesW_size (w : World) (v0 v1 v2 v3 v4 : Value) : (nodesW w v0 v1 v2 v3 v4).heap.size = w.heap.size + 3 := by simp [nodesW]
theorem nodesW_root (w : World) (v0 v1 v2 v3 v4 : Value) : (nodesW w v0 v1 v2 v3 v4).heap[w.heap.size + 1]? = some (.cells #[v0, v1, v2, v3, v4] 25 (0, 0)) := by
  unfold nodesW
  rw [Below.heap_alloc _ _ _ (by simp)]
  have := World.alloc_heap_new (w.alloc (.cells #[v0, v1, v2, v3, v4] 25)) (.cells #[v0, v1, v2, v3, v4] 25)
  rwa [World.size_alloc] at this
theorem nodesW_parts (w : World) (v0 v1 v2 v3 v4 : Value) : (nodesW w v0 v1 v2 v3 v4).heap[w.heap.size + 1 + 1]? = some (.cells #[.func (.func 76) #[] #[]] 82 (0, 0)) := by
  have := World.alloc_heap_new ((w.alloc (.cells #[v0, v1, v2, v3, v4] 25)).alloc (.cells #[v0, v1, v2, v3, v4] 25)) (.cells #[.func (.func 76) #[] #[]] 82)
  rwa [World.size_alloc, World.size_alloc] at this
theorem below_nodesW {B : Nat} {w0 w : World} (h : Below B w0 w) (hB : B ≤ w.heap.size) (v0 v1 v2 v3 v4 : Value) : Below B w0 (nodesW w v0 v1 v2 v3 v4) :=
  ((h.alloc hB _).alloc (by simp; omega) _).alloc (by simp; omega) _
theorem boxed_nodesW {W : World} {B : Nat} {t : TypeId} {v : Value} (h : Boxed W B t v) (v0 v1 v2 v3 v4 : Value) : Boxed (nodesW W v0 v1 v2 v3 v4) B t v := ((h.alloc _).alloc _).alloc _
set_option maxHeartbeats 1000000 in
/-- tree.Nodes of a type: both parameters are boxed; the function value captures the boxes. -/
theorem tnodes_any (v0 v1 v2 v3 v4 : Value) (w : World) : Calls Try.prog 75 #[.agg #[v0, v1, v2, v3, v4], .func (.func 76) #[] #[]] w fun e w' =>
    e = .returned (.func (.func 88) #[] #[.pointer (some ⟨w.heap.size, 0, none⟩), .pointer (some ⟨w.heap.size + 1, 0, none⟩)]) ∧ w' = (w.alloc (.cells #[v0, v1, v2, v3, v4] 25)).alloc (.cells #[.func (.func 76) #[] #[]] 82) := by
  go_enter Try.func75, Try.ntmps75
  go_wp2
  go_ret
  refine ⟨?_, rfl⟩
  simp
set_option maxHeartbeats 1000000 in
/-- ty.nodes: the type is boxed, and handed on. -/
theorem nodes_any (v0 v1 v2 v3 v4 : Value) (w : World) : Calls Try.prog 47 #[.agg #[v0, v1, v2, v3, v4]] w fun e w' =>
    e = .returned (.func (.func 88) #[] #[.pointer (some ⟨w.heap.size + 1, 0, none⟩), .pointer (some ⟨w.heap.size + 1 + 1, 0, none⟩)]) ∧ w' = nodesW w v0 v1 v2 v3 v4 := by
  go_enter Try.func47, Try.ntmps47
  go_wp2_with (go_at_call 75; refine (tnodes_any v0 v1 v2 v3 v4 _).mono ?_; rintro e w' ⟨rfl, rfl⟩)
  go_ret
  refine ⟨?_, rfl⟩
  simp
set_option maxRecDepth 100000 in
set_option maxHeartbeats 2000000 in
/-- The closure: all nodes come, or a part of them from the front on. -/
theorem nodes1_in (n l Bt Bp c : Nat) (S : Nat → Prop) (hS : ∀ k, S k → k < c) (w0 : World) (t : Ty5) (v0 v1 v2 v3 v4 : Value) (hT : TyIn w0 t v0 v1 v2 v3 v4) (J Jx : List (Nd w0) → World → Prop)
    (hJa : ∀ pre W o, J pre W → J pre (W.alloc o))
    (hY : ∀ pre x W, J pre W → pre.length < (walkT 1 t).length → YieldAt Fence.wide (n - 1) Try.prog l (Nd.vals x) W fun e W' =>
      (e = .returned (.bool true) ∧ J (pre ++ [x]) W' ∧ KpS w0.heap.size S W W') ∨ (e = .returned (.bool false) ∧ Jx (pre ++ [x]) W'))
    (W : World) (hBt : ∀ i v, (#[v0, v1, v2, v3, v4] : Array Value)[i]? = some v → W.cell? ⟨Bt, i, none⟩ = some v) (hBp : W.cell? ⟨Bp, 0, none⟩ = some (.func (.func 76) #[] #[])) (h0 : J [] W) (hB : Below w0.heap.size w0 W) (hc : c ≤ W.heap.size) :
    CallsIn Fence.wide n Try.prog 88 #[.func (.yield l) #[] #[], .pointer (some ⟨Bt, 0, none⟩), .pointer (some ⟨Bp, 0, none⟩)] W fun e W' => (∃ v, e = .returned v) ∧
      ((∃ xs : List (Nd w0), xs.map Nd.key = walkT 1 t ∧ J xs W') ∨ (∃ pre : List (Nd w0), pre.map Nd.key <+: walkT 1 t ∧ Jx pre W')) := by
  have hdd : ∀ k : Nat, (Fence.wide.depth.isSome = true → 1 ≤ k) := fun k h => by rw [depth_wide] at h; cases h
  have hfv : Fence.wide.fn 89 := trivial
  have hp := Asd.mk (visit_in w0 l (walkT 1 t).length c S hS J Jx hJa (fun m pre x W hj hl => yieldAt_anyDepth depth_wide m (hY pre x W hj hl)) (szT t) t 1 v0 v1 v2 v3 v4 (n - 1) [] W (Nat.le_refl _) hT h0 hB hc (by simp))
  have b0 := hBt 0 _ rfl
  have b1 := hBt 1 _ rfl
  have b2 := hBt 2 _ rfl
  have b3 := hBt 3 _ rfl
  have b4 := hBt 4 _ rfl
  clear hY hT hB h0 hBt
  refine callsIn_of_wp Try.func88 rfl trivial ?_ rfl
  simp only [Try.ntmps88, List.size_toArray, List.length_cons, List.length_nil, Nat.reduceAdd, Nat.reduceSub, Array.replicate_succ, Array.replicate_zero, List.push_toArray, List.append_toArray, List.nil_append, List.cons_append]
  gi_wp2_with ((try refine ⟨hdd _, ?_⟩); gi_at_call 89; refine hp.out.mono ?_; clear hp; rintro e W1 (⟨rfl, xs, hk, hJ1, _⟩ | ⟨rfl, q, hq, hx⟩))
  · go_end0
    exact ⟨⟨_, rfl⟩, .inl ⟨xs, hk, by simpa using hJ1⟩⟩
  · go_end0
    exact ⟨⟨_, rfl⟩, .inr ⟨q, hq, by simpa using hx⟩⟩
/-- The contract in the law's words. -/
theorem nodes_stops (n Bt Bp c : Nat) (S : Nat → Prop) (hS : ∀ k, S k → k < c) (w0 w : World) (t : Ty5) (v0 v1 v2 v3 v4 : Value) (hT : TyIn w0 t v0 v1 v2 v3 v4) (hB : Below w0.heap.size w0 w) (hc : c ≤ w.heap.size)
    (hBt : w.heap[Bt]? = some (.cells #[v0, v1, v2, v3, v4] 25 (0, 0))) (hBp : w.heap[Bp]? = some (.cells #[.func (.func 76) #[] #[]] 82 (0, 0))) :
    SeqStopsK Fence.wide n Try.prog 88 #[.pointer (some ⟨Bt, 0, none⟩), .pointer (some ⟨Bp, 0, none⟩)] (Nd.vals (w0 := w0)) (KpS w0.heap.size S) (fun xs => xs.map Nd.key = walkT 1 t) (fun pre => pre.map Nd.key <+: walkT 1 t) (walkT 1 t).length w :=
  fun l J Jx W hW hJ _ hY h0 =>
    nodes1_in n l Bt Bp c S hS w0 t v0 v1 v2 v3 v4 hT J Jx (fun pre A o h => hJ pre A _ none h (World.grownBy_alloc A o none) (fun r e => by cases e)) hY W
      (fun i v hi => box_cell ((hW.block Bt (Array.getElem?_eq_some_iff.1 hBt).1).trans hBt) hi) (box_cell ((hW.block Bp (Array.getElem?_eq_some_iff.1 hBp).1).trans hBp) rfl) h0 (hB.trans (hW.mono hB.size)) (Nat.le_trans hc hW.size)
end Go.Proofs.Ytbfmaicoefefaaa
