/- Much of any type, however great; what a range over the nodes of a type without variables is handed; ty.Vars of such a type. -/
import Derived.Test.YtpnfbmhnmhahnaaTyU
import Derived.Test.YtpnfbmhnmhahnaaTyIt
import Derived.Test.YtpnfbmhnmhahnaaTyH
import Derived.Test.YtpnfbmhnmhahnaaTyM
import Derived.RangeFuncNested
import Derived.RangeFuncBound
import Derived.RangeFuncCalls
import Derived.RangeFuncLeaves
import Derived.Shelf.Abstract
import Derived.Shelf.RegionOpen
import Derived.OwnWalkIn
import Derived.TacticsInMore
import Derived.LoopNIn
import Derived.LoopIn
import Derived.Test.YtpnfbmhnmhahnaaTyVq
import Derived.Test.YtpnfbmhnmhahnaaTyVm
import Derived.Laws.OwnMore
import Derived.Maps.AppendAt
import Derived.Shelf.Small.Bits
import Derived.Shelf.Strconv.Itoa0
import Derived.Shelf.Sort.Plain
import Derived.Shelf.Slices.Equal
import Derived.Shelf.Slices.CompactS
import Derived.Shelf.Slices.Cells
import Derived.Shelf.Slices.In.SortNone
import Derived.Shelf.Slices.Empties2
import Derived.Test.YtpnfbmhnmhahnaaRows
namespace Go.Proofs.Ytpnfbmhnmhahnaa
open Go.RowKit Go.Deep Go.Sort
mutual
def muchW : Ty5 → Int
  | .mk _ _ nm ls ks => muchWL (wrap64 (muchA nm ls : Nat)) ks
def muchWL : Int → List Ty5 → Int
  | n, [] => n
  | n, t :: r => if n < 3000 then muchWL (wrap64 (n + muchW t)) r else n
end
theorem i64_wr {a b : Int} (h : a % 18446744073709551616 = b % 18446744073709551616) : Value.int .i64 (wrap64 a) = .int .i64 (wrap64 b) := by
  have : wrap64 a = wrap64 b := by unfold wrap64; omega
  rw [this]
theorem wrap_add (a b : Int) : wrap64 (wrap64 a + b) = wrap64 (a + b) := by
  unfold wrap64
  rw [show (a + 9223372036854775808) % 18446744073709551616 - 9223372036854775808 + b + 9223372036854775808 = (a + 9223372036854775808) % 18446744073709551616 + b by omega, Int.emod_add_emod, show a + 9223372036854775808 + b = a + b + 9223372036854775808 by omega]
theorem muchWL_drop {n : Int} {ks : List Ty5} {j : Nat} (hj : j < ks.length) (h : n < 3000) : muchWL n (ks.drop j) = muchWL (wrap64 (n + muchW (kAt ks j))) (ks.drop (j + 1)) := by
  rw [List.drop_eq_getElem_cons hj, kAt_get hj]
  simp only [muchWL]
  rw [if_pos h]
theorem muchWL_stop {n : Int} (ks : List Ty5) (h : ¬ n < 3000) : muchWL n ks = n := by
  cases ks
  · rfl
  · simp only [muchWL]
    rw [if_neg h]
set_option maxRecDepth 20000 in
set_option maxHeartbeats 2000000 in
theorem rmuch_wrap : ∀ (f : Nat) (t : Ty5) (v0 v1 v2 v3 v4 : Value) (w : World), szT t ≤ f → TyIn w t v0 v1 v2 v3 v4 →
    Calls Try.prog 6 #[.agg #[v0, v1, v2, v3, v4]] w fun e w' => e = .returned (.int .i64 (muchW t)) ∧ Below w.heap.size w w'
  | 0, t, _, _, _, _, _, _, h, _ => absurd (szT_pos t) (by omega)
  | f + 1, .mk k n nm ls ks, v0, v1, v2, v3, v4, w, hz, hT => by
    obtain ⟨rfl, rfl, ⟨rfl, hm⟩, hl, hk, h4⟩ := hT
    unfold maxLen at hk hm
    obtain ⟨hls, hlm, hlf⟩ := hl
    unfold maxLen at hlm
    obtain ⟨a3, cap3, e3⟩ : ∃ a cap, v3 = .slice a ls.length cap := by
      rcases hlf with ⟨a, cap, rfl, rfl⟩ | ⟨b, off, cap, rfl, _⟩
      · exact ⟨a, cap, rfl⟩
      · exact ⟨_, cap, rfl⟩
    obtain ⟨a4, cap4, e4⟩ : ∃ a cap, v4 = .slice a ks.length cap := by
      rcases h4 with ⟨a, cap, rfl, rfl⟩ | ⟨b, off, cap, rfl, _⟩
      · exact ⟨a, cap, rfl⟩
      · exact ⟨_, cap, rfl⟩
    subst e3 e4
    have IH := Asd.mk (rmuch_wrap f)
    have HZ := Asd.mk hz
    have HLF := Asd.mk hlf
    have HLS := Asd.mk hls
    have H4 := Asd.mk h4
    clear hz hlf hls h4
    have Z : ∀ (i : Nat) (v : Value), (#[.int .i64 k, .int .i64 n, .string nm, .slice a3 ls.length cap3, .slice a4 ks.length cap4] : Array Value)[i]? = some v → (w.alloc (.cells #[.int .i64 k, .int .i64 n, .string nm, .slice a3 ls.length cap3, .slice a4 ks.length cap4] 26)).cell? ⟨w.heap.size, i, none⟩ = some v := fun i v h => alloc_at w #[.int .i64 k, .int .i64 n, .string nm, .slice a3 ls.length cap3, .slice a4 ks.length cap4] 26 i v h
    have B0 : Below w.heap.size w (w.alloc (.cells #[.int .i64 k, .int .i64 n, .string nm, .slice a3 ls.length cap3, .slice a4 ks.length cap4] 26)) := (Below.refl _ _).alloc (Nat.le_refl _) _
    have Z3 := Asd.mk (Z 3 _ rfl)
    have Z4 := Asd.mk (Z 4 _ rfl)
    have B1 := Asd.mk B0
    clear Z B0
    go_enter Try.func6, Try.ntmps6
    go_wp2
    generalize w.alloc (.cells #[.int .i64 k, .int .i64 n, .string nm, .slice a3 ls.length cap3, .slice a4 ks.length cap4] 26) = W at Z3 Z4 B1 ⊢
    go_loopw [3, 4] (fun m i wr => ∃ j : Nat, j ≤ ls.length ∧ j ≤ 1000 ∧ i = .int .i64 j ∧ m = .int .i64 (wrap64 ((1 + nm.size / 8 + ls.length + eighths (ls.take j) : Nat) : Int)) ∧ Below W.heap.size W wr) (fun _ i _ => ls.length - (intOf i).toNat)
    case atStart => 
      refine ⟨0, by omega, by omega, rfl, ?_, Below.refl _ _⟩
      simp only [List.take_zero, eighths]
      exact i64_wr (by omega)
    case round =>
      obtain ⟨j, hj, hj2, rfl, rfl, hb⟩ := hrel
      have z3 := cell_below hb Z3.out
      by_cases hlt : j < ls.length ∧ j < 1000
      · obtain ⟨hlt, hlt2⟩ := hlt
        rcases HLF.out with ⟨_, _, _, e⟩ | ⟨b, off, cap, e, hbz, hc⟩
        · rw [e] at hlt
          exact absurd hlt (Nat.not_lt_zero _)
        obtain ⟨rfl, rfl⟩ : a3 = some ⟨b, off, none⟩ ∧ cap3 = cap := by simpa using e
        have hcx := ((B1.out.trans (hb.mono B1.out.size)).cell (p := ⟨b, off + j, none⟩) hbz).trans (hc j hlt)
        have hsx := HLS.out _ (by rw [stAt_get hlt]; exact List.getElem_mem hlt : stAt ls j ∈ ls)
        unfold maxLen at hsx
        have HS := Asd.mk (eighths_step hlt)
        clear e hc
        generalize hx : stAt ls j = x at hcx hsx HS
        have hx := Asd.mk hx
        go_wp2
        go_roundw
        case rel => 
          refine ⟨j + 1, by omega, by omega, by go_num, ?_, hb⟩
          rw [HS.out]
          rw [wrap_add]
          exact i64_wr (by omega)
        case measure => simp [intOf]; omega
      · have hm8 : eighths (ls.take j) = eighths (ls.take 1000) := by
          by_cases h : j = 1000
          · rw [h]
          · rw [List.take_of_length_le (by omega), List.take_of_length_le (by omega)]
        have hA : ((1 + nm.size / 8 + ls.length + eighths (ls.take j) : Nat) : Int) = (muchA nm ls : Nat) := by rw [hm8]; rfl
        rw [hA]
        clear hA hm8
        have z4 := Asd.mk Z4.out
        rcases (show ¬ j < ls.length ∨ (j < ls.length ∧ ¬ j < 1000) by omega) with h | ⟨h, h'⟩
        all_goals
          go_wp2
          have HB := Asd.mk hb
          clear hb z3
          go_loopw [3, 5] (fun m i w3 => ∃ (q : Nat) (nn : Int), q ≤ ks.length ∧ i = .int .i64 q ∧ m = .int .i64 nn ∧ muchWL nn (ks.drop q) = muchW (.mk k n nm ls ks) ∧ Below wr.heap.size wr w3) (fun _ i _ => ks.length - (intOf i).toNat)
          case atStart => exact ⟨0, wrap64 (muchA nm ls : Nat), by omega, rfl, rfl, by simp [muchW], Below.refl _ _⟩
          case round =>
            obtain ⟨q, nn, hq, rfl, rfl, hM, hb3⟩ := hrel
            have y4 := cell_below hb3 (cell_below HB.out z4.out)
            have HM := Asd.mk hM
            clear hM
            by_cases h3 : nn < 3000
            · by_cases hlt : q < ks.length
              · rcases H4.out with ⟨_, _, _, e⟩ | ⟨b, off, cap, e, hr⟩
                · rw [e] at hlt
                  exact absurd hlt (Nat.not_lt_zero _)
                obtain ⟨rfl, rfl⟩ : a4 = some ⟨b, off, none⟩ ∧ cap4 = cap := by simpa using e
                obtain ⟨x0, x1, x2, x3, x4, c0, c1, c2, c3, c4, ht⟩ := (((hr.mono B1.out).mono HB.out).mono hb3).at hlt
                have HT := Asd.mk ht
                have HB3 := Asd.mk hb3
                have HS : Asd (szT (kAt ks q) ≤ f) := ⟨by
                  have h1 := HZ.out
                  have h6 := szT_kid (k := k) (n := n) (nm := nm) (ls := ls) hlt
                  omega⟩
                clear ht hb3 hr e
                go_wp2_with (go_at_call 6; refine (IH.out (kAt ks q) _ _ _ _ _ _ HS.out HT.out).mono ?_; rintro e w4 ⟨rfl, hb4⟩)
                go_roundw
                case rel => exact ⟨q + 1, wrap64 (nn + muchW (kAt ks q)), by omega, by go_num, rfl, by rw [← muchWL_drop hlt h3]; exact HM.out, HB3.out.trans (hb4.mono HB3.out.size)⟩
                case measure => simp [intOf]; omega
              · have hqe : q = ks.length := by omega
                subst hqe
                go_wp2
                go_ret
                exact ⟨retI (by have e := HM.out; rw [List.drop_length] at e; rw [← e]; rfl), B1.out.trans ((HB.out.trans (hb3.mono HB.out.size)).mono B1.out.size)⟩
            · have e := muchWL_stop (ks.drop q) h3
              rcases (show q < ks.length ∨ ¬ q < ks.length by omega) with hlt | hlt
              all_goals
                go_wp2
                go_ret
                exact ⟨retI (by rw [← HM.out, e]), B1.out.trans ((HB.out.trans (hb3.mono HB.out.size)).mono B1.out.size)⟩
end Go.Proofs.Ytpnfbmhnmhahnaa
namespace Go.Proofs.Ytpnfbmhnmhahnaa
open Go.RowKit Go.Shelf
attribute [local go_sem] Oper.semAt_some
structure Nv (w0 : World) where
  x : Nd w0
  hv : x.t.k ≠ 6
def Nv.key {w0 : World} (y : Nv w0) : Int × Ty5 := y.x.key
def Nv.vals {w0 : World} (y : Nv w0) : Array Value := y.x.vals
theorem has_parts {k n : Int} {nm : ByteArray} {ls : List ByteArray} {ks : List Ty5} (h : hasT 6 (.mk k n nm ls ks) = false) : k ≠ 6 ∧ ∀ (j : Nat), j < ks.length → hasT 6 (kAt ks j) = false := by
  simp only [hasT, Bool.or_eq_false_iff, beq_eq_false_iff_ne] at h
  refine ⟨h.1, fun j hj => ?_⟩
  rcases Bool.eq_false_or_eq_true (hasT 6 (kAt ks j)) with hq | hq
  · rw [hasL_of (kAt_mem hj) hq] at h
    exact absurd h.2 (by decide)
  · exact hq
set_option maxRecDepth 100000 in
set_option maxHeartbeats 4000000 in
/-- ty.visit, by induction on the type's size, for every loop body: all nodes have come, or a round has said 'no more'. -/
theorem visit_v (w0 : World) (l N c : Nat) (S : Nat → Prop) (hS : ∀ k, S k → k < c) (J Jx : List (Nv w0) → World → Prop)
    (hJa : ∀ pre W o, J pre W → J pre (W.alloc o))
    (hY : ∀ m pre x W, J pre W → pre.length < N → YieldAt Fence.wide m Try.prog l (Nv.vals x) W fun e W' =>
      (e = .returned (.bool true) ∧ J (pre ++ [x]) W' ∧ KpS w0.heap.size S W W') ∨ (e = .returned (.bool false) ∧ Jx (pre ++ [x]) W')) :
    ∀ (f : Nat) (t : Ty5) (d : Int) (v0 v1 v2 v3 v4 : Value) (n : Nat) (pre : List (Nv w0)) (W : World), szT t ≤ f → hasT 6 t = false → TyIn w0 t v0 v1 v2 v3 v4 → J pre W → Below w0.heap.size w0 W → c ≤ W.heap.size → pre.length + (walkT d t).length ≤ N →
    CallsIn Fence.wide n Try.prog 51 #[.int .i64 d, .agg #[v0, v1, v2, v3, v4], .func (.yield l) #[] #[]] W fun e W' =>
      (e = .returned (.bool true) ∧ ∃ xs : List (Nv w0), xs.map Nv.key = walkT d t ∧ J (pre ++ xs) W' ∧ Below w0.heap.size W W') ∨
      (e = .returned (.bool false) ∧ ∃ q : List (Nv w0), q.map Nv.key <+: walkT d t ∧ Jx (pre ++ q) W')
  | 0, t, _, _, _, _, _, _, _, _, _, h, _, _, _, _, _, _ => absurd (szT_pos t) (by omega)
  | f + 1, .mk k n nm ls ks, d, v0, v1, v2, v3, v4, m, pre, W, hz, hh, hT, hJ, hB, hc, hN => by
    obtain ⟨hk6, hkids⟩ := has_parts hh
    have HH := Asd.mk hkids
    have HK6 := Asd.mk hk6
    clear hkids hh hk6
    have hdd : ∀ k : Nat, (Fence.wide.depth.isSome = true → 1 ≤ k) := fun k h => by rw [depth_wide] at h; cases h
    have hfv : Fence.wide.fn 51 := trivial
    have HT := Asd.mk hT
    obtain ⟨rfl, rfl, ⟨rfl, hm⟩, hl, hk, h4⟩ := hT
    unfold maxLen at hk
    obtain ⟨a4, cap4, e4⟩ : ∃ a cap, v4 = .slice a ks.length cap := by
      rcases h4 with ⟨a, cap, rfl, rfl⟩ | ⟨b, off, cap, rfl, _⟩
      · exact ⟨a, cap, rfl⟩
      · exact ⟨_, cap, rfl⟩
    subst e4
    simp only [walkT, List.length_cons] at hN
    have HK : Asd (walkT d (.mk k n nm ls ks) = (d, .mk k n nm ls ks) :: walkL (wrap64 (d + 1)) ks) := ⟨by simp [walkT]⟩
    have IH := Asd.mk (visit_v w0 l N c S hS J Jx hJa hY f)
    -- the box of the parameter; the first round
    obtain ⟨x, hx⟩ : ∃ x : Nv w0, x = ⟨⟨d, .mk k n nm ls ks, .int .i64 k, .int .i64 n, .string nm, v3, .slice a4 ks.length cap4, HT.out⟩, HK6.out⟩ := ⟨_, rfl⟩
    have hW1 : Below W.heap.size W (W.alloc (.cells #[.int .i64 k, .int .i64 n, .string nm, v3, .slice a4 ks.length cap4] 26)) := (Below.refl _ _).alloc (Nat.le_refl _) _
    have hbox : (W.alloc (.cells #[.int .i64 k, .int .i64 n, .string nm, v3, .slice a4 ks.length cap4] 26)).heap[W.heap.size]? = some (.cells #[.int .i64 k, .int .i64 n, .string nm, v3, .slice a4 ks.length cap4] 26 (0, 0)) := World.alloc_heap_new W _
    have hy1 := hY (m - 1) pre x _ (hJa pre W (.cells #[.int .i64 k, .int .i64 n, .string nm, v3, .slice a4 ks.length cap4] 26) hJ) (by omega)
    have hy2 := YieldAt.mono (R' := fun e W' => (e = .returned (.bool true) ∧ Asd (J (pre ++ [x]) W' ∧ Below w0.heap.size W W') ∧ W'.cell? ⟨W.heap.size, 4, none⟩ = some (.slice a4 ks.length cap4)) ∨ (e = .returned (.bool false) ∧ Asd (Jx (pre ++ [x]) W'))) hy1 (fun e W' h => h.elim
      (fun ⟨he, hj, hk⟩ => .inl ⟨he, ⟨hj, (hW1.mono hB.size).trans hk.1⟩, box_cell (hk.2 _ _ _ hbox (fun h => by have := hS _ h; omega)) rfl⟩) (fun ⟨he, hj⟩ => .inr ⟨he, ⟨hj⟩⟩))
    clear hy1 hbox
    subst hx
    dsimp only [Nv.vals, Nd.vals] at hy2
    obtain ⟨fn, tmps, assign, body, hy, hR⟩ := hy2
    have HN := Asd.mk hN
    have HZ := Asd.mk hz
    have H4 := Asd.mk h4
    have HB := Asd.mk hB
    have HC := Asd.mk hc
    have HW1 := Asd.mk hW1
    have HJ := Asd.mk hJ
    have HYY := Asd.mk hY
    clear hN hz h4 hB hc hW1 hJ hm hl hY
    refine callsIn_of_wp Try.func51 rfl trivial ?_ rfl
    simp only [Try.ntmps51, List.size_toArray, List.length_cons, List.length_nil, Nat.reduceAdd, Nat.reduceSub, Array.replicate_succ, Array.replicate_zero, List.push_toArray, List.append_toArray, List.nil_append, List.cons_append]
    gi_wp2_with ((try refine ⟨hdd _, ?_⟩); refine hR.mono ?_; clear hR; rintro e W2 (⟨rfl, HJ2, c4⟩ | ⟨rfl, HJ2⟩))
    · -- the node's kinds
      gi_loopw [17] (fun i wr => ∃ j : Nat, j ≤ ks.length ∧ i = .int .i64 j ∧ Asd (∃ xs : List (Nv w0), xs.map Nv.key = (d, Ty5.mk k n nm ls ks) :: walkL (wrap64 (d + 1)) (ks.take j) ∧ J (pre ++ xs) wr ∧ Below w0.heap.size W wr)) (fun i _ => ks.length - (intOf i).toNat)
      case atStart => exact ⟨0, by omega, rfl, ⟨_, by simp [walkL, Nv.key, Nd.key], HJ2.out.1, HJ2.out.2⟩⟩
      case round =>
        obtain ⟨j, hj, rfl, HX⟩ := hrel
        by_cases hlt : j < ks.length
        · rcases H4.out with ⟨_, _, _, e⟩ | ⟨b, off, cap, e, hr⟩
          · rw [e] at hlt
            exact absurd hlt (Nat.not_lt_zero _)
          obtain ⟨rfl, rfl⟩ : a4 = some ⟨b, off, none⟩ ∧ cap4 = cap := by simpa using e
          obtain ⟨xs, hxs, hJx, hBx⟩ := HX.out
          have hBw := HB.out.trans hBx
          obtain ⟨x0, x1, x2, x3, x4, c0, c1, c2, c3, c4', ht⟩ := hr.at hlt
          have c0 := cell_below hBw c0
          have c1 := cell_below hBw c1
          have c2 := cell_below hBw c2
          have c3 := cell_below hBw c3
          have c4' := cell_below hBw c4'
          obtain ⟨k', n', nm', a', l', cc', a'', l'', cc'', rfl, rfl, rfl, rfl, rfl⟩ := ht.form
          have hsz : szT (kAt ks j) ≤ f := by have := HZ.out; have := szT_kid (k := k) (n := n) (nm := nm) (ls := ls) hlt; omega
          have hB3 : Below w0.heap.size wr (wr.alloc (.cells #[.int .i64 k', .int .i64 n', .string nm', .slice a' l' cc', .slice a'' l'' cc''] 26)) := (Below.refl _ _).alloc hBw.size _
          have hlen : (pre ++ xs).length + (walkT (wrap64 (d + 1)) (kAt ks j)).length ≤ N := by
            have h1 := HN.out
            have h2 := congrArg List.length hxs
            have h3 := congrArg List.length (walkL_step (wrap64 (d + 1)) hlt)
            have h5 := (walkL_part (wrap64 (d + 1)) ks (j + 1)).length_le
            simp only [List.length_map, List.length_cons, List.length_append] at h2 h3 ⊢
            omega
          have hC := Asd.mk (IH.out (kAt ks j) (wrap64 (d + 1)) (.int .i64 k') (.int .i64 n') (.string nm') (.slice a' l' cc') (.slice a'' l'' cc'') (m - 1) (pre ++ xs) (wr.alloc (.cells #[.int .i64 k', .int .i64 n', .string nm', .slice a' l' cc', .slice a'' l'' cc''] 26)) hsz (HH.out _ hlt) ht (hJa _ _ _ hJx) (hBw.trans hB3) (by have := HC.out; have := hBx.size; have := hB3.size; omega) hlen)
          have HXS := Asd.mk hxs
          have HB3 := Asd.mk hB3
          have HBX := Asd.mk hBx
          clear hxs hB3 hBx hBw hJx ht hr e HX hlen hsz
          gi_wp2_with ((try refine ⟨hdd _, ?_⟩); gi_at_call 51; refine hC.out.mono ?_; clear hC; rintro e W3 (⟨rfl, ys, hk3, hJ3, hb3⟩ | ⟨rfl, q, hq, hx3⟩))
          · have HK3 := Asd.mk hk3
            have HJ3 := Asd.mk hJ3
            have HBB := Asd.mk hb3
            clear hk3 hJ3 hb3
            go_roundw
            case rel => exact ⟨j + 1, by omega, by go_num, ⟨xs ++ ys, by rw [List.map_append, HXS.out, HK3.out, walkL_step _ hlt, List.cons_append], by rw [← List.append_assoc]; exact HJ3.out, HBX.out.trans (HB3.out.trans HBB.out)⟩⟩
            case measure => simp [intOf]; omega
          · go_ret
            refine .inr ⟨rfl, xs ++ q, ?_, by rw [← List.append_assoc]; exact hx3⟩
            rw [List.map_append, HXS.out, HK.out, List.cons_append]
            refine List.cons_prefix_cons.2 ⟨rfl, ?_⟩
            refine List.IsPrefix.trans ?_ (walkL_part (wrap64 (d + 1)) ks (j + 1))
            rw [walkL_step _ hlt]
            exact (List.prefix_append_right_inj _).2 hq
        · have : j = ks.length := by omega
          subst this
          obtain ⟨xs, hxs, hJx, hBx⟩ := HX.out
          clear HX
          gi_wp2
          go_ret
          exact .inl ⟨rfl, xs, by rw [hxs, HK.out, List.take_length], hJx, hBx⟩
    · go_ret
      exact .inr ⟨rfl, _, by rw [HK.out]; simp [Nv.key, Nd.key], HJ2.out⟩
set_option maxRecDepth 100000 in
set_option maxHeartbeats 2000000 in
/-- The closure: all nodes come, or a part of them from the front on. -/
theorem nodes1_v (n l Bt c : Nat) (S : Nat → Prop) (hS : ∀ k, S k → k < c) (w0 : World) (t : Ty5) (v0 v1 v2 v3 v4 : Value) (hh : hasT 6 t = false) (hT : TyIn w0 t v0 v1 v2 v3 v4) (J Jx : List (Nv w0) → World → Prop)
    (hJa : ∀ pre W o, J pre W → J pre (W.alloc o))
    (hY : ∀ pre x W, J pre W → pre.length < (walkT 1 t).length → YieldAt Fence.wide (n - 1) Try.prog l (Nv.vals x) W fun e W' =>
      (e = .returned (.bool true) ∧ J (pre ++ [x]) W' ∧ KpS w0.heap.size S W W') ∨ (e = .returned (.bool false) ∧ Jx (pre ++ [x]) W'))
    (W : World) (hBt : ∀ i v, (#[v0, v1, v2, v3, v4] : Array Value)[i]? = some v → W.cell? ⟨Bt, i, none⟩ = some v) (h0 : J [] W) (hB : Below w0.heap.size w0 W) (hc : c ≤ W.heap.size) :
    CallsIn Fence.wide n Try.prog 50 #[.func (.yield l) #[] #[], .pointer (some ⟨Bt, 0, none⟩)] W fun e W' => (∃ v, e = .returned v) ∧
      ((∃ xs : List (Nv w0), xs.map Nv.key = walkT 1 t ∧ J xs W') ∨ (∃ pre : List (Nv w0), pre.map Nv.key <+: walkT 1 t ∧ Jx pre W')) := by
  have hdd : ∀ k : Nat, (Fence.wide.depth.isSome = true → 1 ≤ k) := fun k h => by rw [depth_wide] at h; cases h
  have hfv : Fence.wide.fn 51 := trivial
  have hp := Asd.mk (visit_v w0 l (walkT 1 t).length c S hS J Jx hJa (fun m pre x W hj hl => yieldAt_anyDepth depth_wide m (hY pre x W hj hl)) (szT t) t 1 v0 v1 v2 v3 v4 (n - 1) [] W (Nat.le_refl _) hh hT h0 hB hc (by simp))
  have b0 := hBt 0 _ rfl
  have b1 := hBt 1 _ rfl
  have b2 := hBt 2 _ rfl
  have b3 := hBt 3 _ rfl
  have b4 := hBt 4 _ rfl
  clear hY hT hB h0 hBt
  refine callsIn_of_wp Try.func50 rfl trivial ?_ rfl
  simp only [Try.ntmps50, List.size_toArray, List.length_cons, List.length_nil, Nat.reduceAdd, Nat.reduceSub, Array.replicate_succ, Array.replicate_zero, List.push_toArray, List.append_toArray, List.nil_append, List.cons_append]
  gi_wp2_with ((try refine ⟨hdd _, ?_⟩); gi_at_call 51; refine hp.out.mono ?_; clear hp; rintro e W1 (⟨rfl, xs, hk, hJ1, _⟩ | ⟨rfl, q, hq, hx⟩))
  · go_end0
    exact ⟨⟨_, rfl⟩, .inl ⟨xs, hk, by simpa using hJ1⟩⟩
  · go_end0
    exact ⟨⟨_, rfl⟩, .inr ⟨q, hq, by simpa using hx⟩⟩
/-- The contract in the law's words. -/
theorem nodes_stops_v (n Bt c : Nat) (S : Nat → Prop) (hS : ∀ k, S k → k < c) (w0 w : World) (t : Ty5) (v0 v1 v2 v3 v4 : Value) (hh : hasT 6 t = false) (hT : TyIn w0 t v0 v1 v2 v3 v4) (hB : Below w0.heap.size w0 w) (hc : c ≤ w.heap.size)
    (hBt : w.heap[Bt]? = some (.cells #[v0, v1, v2, v3, v4] 26 (0, 0))) :
    SeqStopsK Fence.wide n Try.prog 50 #[.pointer (some ⟨Bt, 0, none⟩)] (Nv.vals (w0 := w0)) (KpS w0.heap.size S) (fun xs => xs.map Nv.key = walkT 1 t) (fun pre => pre.map Nv.key <+: walkT 1 t) (walkT 1 t).length w :=
  fun l J Jx W hW hJ _ hY h0 =>
    nodes1_v n l Bt c S hS w0 t v0 v1 v2 v3 v4 hh hT J Jx (fun pre A o h => hJ pre A _ none h (World.grownBy_alloc A o none) (fun r e => by cases e)) hY W
      (fun i v hi => box_cell ((hW.block Bt (Array.getElem?_eq_some_iff.1 hBt).1).trans hBt) hi) h0 (hB.trans (hW.mono hB.size)) (Nat.le_trans hc hW.size)
end Go.Proofs.Ytpnfbmhnmhahnaa
namespace Go.Proofs.Ytpnfbmhnmhahnaa
open Go.RowKit Go.Shelf Go.Sort
attribute [local go_sem] Oper.semAt_some
set_option maxRecDepth 100000 in
set_option maxHeartbeats 4000000 in
theorem pvars_none (t : Ty5) (v0 v1 v2 v3 v4 : Value) (w : World) (hT : TyIn w t v0 v1 v2 v3 v4) (hh : hasT 6 t = false) :
    Calls Try.prog 32 #[.agg #[v0, v1, v2, v3, v4]] w fun e w' => e = .returned (.slice none 0 0) ∧ Below w.heap.size w w' := by
  refine (callsIn_wide (n := 8)).1 ?_
  have hf1 : Fence.wide.fn 39 := trivial
  have HT := Asd.mk hT
  have HH := Asd.mk hh
  clear hT hh
  refine callsIn_of_wp_marks Try.func32 rfl trivial ?_ rfl
  simp only [Try.ntmps32, List.size_toArray, List.length_cons, List.length_nil, Nat.reduceAdd, Nat.reduceSub, Array.replicate_succ, Array.replicate_zero, List.push_toArray, List.append_toArray, List.nil_append, List.cons_append]
  gi_wp2_with (gi_at_call 39; refine (callsIn_wide.2 (nodes_any v0 v1 v2 v3 v4 _)).mono ?_; rintro e w' ⟨rfl, rfl⟩)
  have bS := (Boxed.new (w.alloc (.cells #[v0, v1, v2, v3, v4] 26)) 23 (.slice none 0 0)).alloc (.cells #[v0, v1, v2, v3, v4] 26)
  have bA := World.alloc_heap_new ((w.alloc (.cells #[v0, v1, v2, v3, v4] 26)).alloc (.cells #[.slice none 0 0] 23)) (.cells #[v0, v1, v2, v3, v4] 26)
  have hB0 : Below w.heap.size w (((w.alloc (.cells #[v0, v1, v2, v3, v4] 26)).alloc (.cells #[.slice none 0 0] 23)).alloc (.cells #[v0, v1, v2, v3, v4] 26)) := (((Below.refl _ w).alloc (Nat.le_refl _) _).alloc (by simp) _).alloc (by simp; omega) _
  have hsz : (((w.alloc (.cells #[v0, v1, v2, v3, v4] 26)).alloc (.cells #[.slice none 0 0] 23)).alloc (.cells #[v0, v1, v2, v3, v4] 26)).heap.size = w.heap.size + 3 := by simp
  simp only [World.size_alloc] at bS bA
  obtain ⟨W0, hW0⟩ : ∃ W0, ((w.alloc (.cells #[v0, v1, v2, v3, v4] 26)).alloc (.cells #[.slice none 0 0] 23)).alloc (.cells #[v0, v1, v2, v3, v4] 26) = W0 := ⟨_, rfl⟩
  rw [hW0] at bS bA hB0 hsz ⊢
  clear hW0
  obtain ⟨i0, hi, hz0, hz1, hz2⟩ := info_parts info_strT
  refine wpIn_rangeFunc_ownH rfl (by omega) (gf := 50) (lb := #[.pointer (some ⟨w.heap.size + 1 + 1, 0, none⟩)]) rfl trivial (enters_of Try.func50 (by kernel_rfl) rfl)
    (nodes_stops_v 7 (w.heap.size + 1 + 1) (w.heap.size + 3) (fun _ => False) (fun k h => h.elim) w W0 t v0 v1 v2 v3 v4 HH.out HT.out hB0 (by omega) bA) kpS_t (kpS_b (by omega)) (Below.refl _ _) (fun _ => rfl)
    (fun pre W => (∃ v, Boxed W (w.heap.size + 1) 23 v ∧ W.ownsRow w.heap.size 9 1 v 0 [] ∧ v = .slice none 0 0) ∧ Below w.heap.size w W)
    (fun _ _ _ => False)
    (OwnFrom.and (Own.from (holdsRow_own w.heap.size (w.heap.size + 1) 23 9 1 (fun _ => 0) (fun _ => []) (fun _ v => v = .slice none 0 0)) _) (ownFrom_below (Nat.le_refl _) (by omega)))
    (fun _ _ _ _ _ hs _ _ => hs)
    ⟨⟨_, bS, World.ownsRow_nil _ _ _ _, rfl⟩, hB0⟩
    (fun x a' W => ∃ Bx, Box5 W Bx x.x ∧ a' = { tmps := #[.agg #[v0, v1, v2, v3, v4], .pointer (some ⟨w.heap.size, 0, none⟩), .slice none 0 0, .pointer (some ⟨w.heap.size + 1, 0, none⟩), undef, .pointer (some ⟨Bx, 0, none⟩), .agg #[v0, v1, v2, v3, v4], .func (.func 50) #[] #[.pointer (some ⟨w.heap.size + 1 + 1, 0, none⟩)], .int .i64 x.x.d, .agg #[x.x.v0, x.x.v1, x.x.v2, x.x.v3, x.x.v4], undef, undef, undef, undef, undef, undef, undef, undef, undef, undef, undef, undef], defers := [] })
    (fun x a' _ X Y row hs hg hr => by
      obtain ⟨Bx, h1, h2⟩ := hs
      exact ⟨Bx, box5_own Bx x.x () X Y row h1 hg (fun r e => (hr r e).2), h2⟩)
    ?assign ?body ?done ?stop
  case assign =>
    rintro l pre x W K ⟨⟨v, bV, oV, rfl⟩, hB1⟩ hK
    have hW := hB1.size
    obtain ⟨⟨d, t', u0, u1, u2, u3, u4, hu⟩, hx6⟩ := x
    obtain ⟨k', n', nm', a', l', cc', a'', l'', cc'', rfl, rfl, rfl, rfl, rfl⟩ := hu.form
    simp only [Nv.vals, Nd.vals, zip2]
    gi_wp2
    exact hK _ _ ((KeepsOthers.alloc _ _).from _) (KpS.of_below hW ((Below.refl _ _).alloc (Nat.le_refl _) _)) ⟨⟨_, bV.alloc _, oV.alloc _, rfl⟩, hB1.alloc hB1.size _⟩ ⟨W.heap.size, World.alloc_heap_new W _, rfl⟩
  case body =>
    rintro l pre x a' W hl hr ⟨⟨v, bV, oV, rfl⟩, hB1⟩ ⟨Bx, bX, rfl⟩ hlt
    have cX := bX.kind
    have cV := bV.cell
    have fV := bV.frozen
    have hsW := hB1.size
    have hq : (x.x.t.k == 6) = false := beq_eq_false_iff_ne.2 x.hv
    gi_wp2
    exact ⟨KeepsFrom.refl _ _, KpS.refl _ _ _, ⟨⟨_, bV, oV, rfl⟩, hB1⟩⟩
  case done =>
    rintro D xs W hD hxs ⟨⟨v, bV, oV, rfl⟩, hB1⟩ hK
    have cV := bV.cell
    have hf2 : Fence.wide.fn 40 := trivial
    have hf3 : Fence.wide.fn 41 := trivial
    gi_wp2_with (first
      | (gi_at_call 40; refine (callsIn_wide.2 (lb_slices_Sort_string_none none 0 W)).mono ?_; rintro e W1 ⟨rfl, rfl⟩)
      | (gi_at_call 41; refine (callsIn_wide.2 (lb_slices_Compact_string_empty none 0 W1)).mono ?_; rintro e W2 ⟨rfl, rfl⟩))
    refine ⟨by simp, .inl ⟨_, _, rfl, run_takeDeferred hK, ?_⟩⟩
    exact ⟨_, results_tmp rfl _ _ _, rfl, hB1.trans (belowK_b (w := w) (Nat.le_refl _) _ D _ _ (by omega) hK rfl rfl)⟩
  case stop =>
    rintro D c pre W _ _ h _
    exact h.elim
end Go.Proofs.Ytpnfbmhnmhahnaa
