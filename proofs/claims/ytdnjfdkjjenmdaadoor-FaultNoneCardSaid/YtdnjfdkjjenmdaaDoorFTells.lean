/- limbecklaw02.FaultTells: the walk. -/
import Derived.Test.YtdnjfdkjjenmdaaDoorFBuild
import Derived.Test.YtdnjfdkjjenmdaaDoorFNone
import Derived.Lib.QuietBelow
import Derived.BigQuiet
import Derived.Deep.QuietTactic
namespace Go.Proofs.YtdnjfdkjjenmdaaDoor
open Go.RowKit Go.Sort
theorem same_code {c a : Int} {o : Bool} {e : Er} {ns : List ByteArray} (h : Same (start c a o) e ns) : e.isNil = (c == 0 && !o) ∧ e.code = (if o = true then 23 else c) ∧ e.pos = (if (o || c == 0) = true then -1 else a) ∧
    e.defFrom ⟨#[]⟩ = (if (!o && c == 0) = true then ⟨#[]⟩ else (ns.getLast?).getD ⟨#[]⟩) ∧ ∀ q, e.isCode q = (!o && c == q) := by
  obtain ⟨h1, h2⟩ := h
  cases o with
  | true =>
    have h0 : (start c a true).isNil = false := rfl
    obtain ⟨g1, g2, g3⟩ := h2 h0
    rw [h0] at h1
    refine ⟨by rw [h1]; simp, ?_, ?_, ?_, ?_⟩
    · unfold Er.code; rw [h1, g1]; rfl
    · unfold Er.pos; rw [g1]; rfl
    · rw [g3]; rfl
    · intro q; unfold Er.isCode; rw [h1, g2]; rfl
  | false =>
    rcases Bool.eq_false_or_eq_true (c == 0) with hc | hc
    · have hs : start c a false = .nil := by unfold start newE; rw [hc]; rfl
      rw [hs] at h1
      have he : e = .nil := by cases e <;> first | rfl | (simp [Er.isNil] at h1; done)
      subst he
      have hc0 : c = 0 := by simpa using hc
      subst hc0
      refine ⟨rfl, rfl, rfl, rfl, fun q => ?_⟩
      simp [Er.isCode, Er.isNil, Bool.beq_comm, eq_comm]
    · have hs : start c a false = .placed c a := by unfold start newE; rw [hc]; rfl
      rw [hs] at h1 h2
      obtain ⟨g1, g2, g3⟩ := h2 rfl
      refine ⟨by rw [h1, hc]; rfl, ?_, ?_, ?_, ?_⟩
      · unfold Er.code; rw [h1, g1]; simp [Er.plc, Er.isNil, hc]
      · unfold Er.pos; rw [g1]; simp [Er.plc, hc]
      · rw [g3]; simp [hc]
      · intro q; unfold Er.isCode; rw [h1, g2]; rfl

theorem len_case {w : World} {v : Value} {ws : List (ByteArray × Bool)} (h : WrapsAt w v ws) : ∃ a0 cap, v = .slice a0 ws.length cap := by
  rcases h with ⟨a, cap, rfl, rfl⟩ | ⟨b, off, cap, rfl, _⟩
  · exact ⟨a, cap, rfl⟩
  · exact ⟨_, cap, rfl⟩

set_option maxRecDepth 8000 in
set_option maxHeartbeats 4000000 in
/-- The law's last line, over an error that was built. -/
theorem tells_any (c a q : Int) (o : Bool) (v : Value) (ws : List (ByteArray × Bool)) (w : World) (h : WrapsAt w v ws) (hg : w.cell? ⟨0, 0, none⟩ = some (.iface 66 (.agg #[.pointer (some ⟨1, 26, none⟩)]))) :
    Calls Tryd.prog 3 #[.int .i64 c, .int .i64 a, .bool o, v, .int .i64 q] w fun e w' => e = .returned (.bool true) ∧ Below w.heap.size w w' := by
  obtain ⟨a0, cap, hv⟩ := len_case h
  by_cases hl : 40 < ws.length
  · subst hv
    generalize ws.length = n at hl
    have H : Aside (w.cell? ⟨0, 0, none⟩ = some (.iface 66 (.agg #[.pointer (some ⟨1, 26, none⟩)]))) := hg
    clear h hg
    go_enter Tryd.func3, Tryd.ntmps3
    go_wp2_with fail
    refine (awake_any _ H.out).mono ?_; rintro ev w1 ⟨rfl, hb1⟩
    go_wp2_with fail
    go_ret
    exact ⟨rfl, hb1⟩
  have H : Aside (WrapsAt w v ws ∧ ws.length ≤ 40 ∧ w.cell? ⟨0, 0, none⟩ = some (.iface 66 (.agg #[.pointer (some ⟨1, 26, none⟩)])) ∧ v = .slice a0 ws.length cap) := ⟨h, by omega, hg, hv⟩
  have hB := build_any c a o v ws w h (by omega)
  clear h hg
  subst hv
  generalize ws.length = n at hl hB
  go_enter Tryd.func3, Tryd.ntmps3
  go_wp2_with fail
  refine hB.mono ?_
  clear hB
  rintro ev w1 ⟨e, ns, vn, rfl, he, hN, hlen, hS, hb1⟩
  have hns : ∃ sa sn sc, vn = .slice sa sn sc := by
    rcases hN with ⟨h, _⟩ | ⟨g, cp, h, _⟩
    · exact ⟨_, _, _, h⟩
    · exact ⟨_, _, _, h⟩
  obtain ⟨sa, sn, sc, rfl⟩ := hns
  obtain ⟨e1, e2, e3, e4, e5'⟩ := same_code hS
  have e5 := e5' q
  clear e5'
  generalize hd : (if (!o && c == 0) = true then (⟨#[]⟩ : ByteArray) else (ns.getLast?).getD ⟨#[]⟩) = dd at e4
  generalize hkc : (if o = true then (23 : Int) else c) = kc at e2
  generalize hkp : (if (o || c == 0) = true then (-1 : Int) else a) = kp at e3
  generalize hbb : (!o && c == q) = bb at e5
  have BN : Below w1.heap.size w1 (w1.alloc (.cells #[.int .i64 c, .int .i64 a, .slice sa sn sc, .bool o] 29)) := (Below.refl _ _).alloc (Nat.le_refl _) _
  have CN : ∀ j u, (#[Value.int .i64 c, .int .i64 a, .slice sa sn sc, .bool o] : Array Value)[j]? = some u → (w1.alloc (.cells #[.int .i64 c, .int .i64 a, .slice sa sn sc, .bool o] 29)).cell? ⟨w1.heap.size, j, none⟩ = some u := fun j u h => cell_alloc_newN w1 _ _ j u h
  have A : Aside (e.code = kc ∧ e.pos = kp ∧ e.defFrom ⟨#[]⟩ = dd ∧ e.isCode q = bb ∧ ns.length ≤ 1000) := ⟨e2, e3, e4, e5, by omega⟩
  have AD : Aside ((if (!o && c == 0) = true then (⟨#[]⟩ : ByteArray) else (ns.getLast?).getD ⟨#[]⟩) = dd ∧ (if o = true then (23 : Int) else c) = kc ∧ (if (o || c == 0) = true then (-1 : Int) else a) = kp ∧ (!o && c == q) = bb) := ⟨hd, hkc, hkp, hbb⟩
  have A2 : Aside (e.At (w1.alloc (.cells #[.int .i64 c, .int .i64 a, .slice sa sn sc, .bool o] 29)) ∧ NamesAt (w1.alloc (.cells #[.int .i64 c, .int .i64 a, .slice sa sn sc, .bool o] 29)) (.slice sa sn sc) ns ∧ Below w.heap.size w (w1.alloc (.cells #[.int .i64 c, .int .i64 a, .slice sa sn sc, .bool o] 29))) := ⟨he.mono BN, hN.mono BN, hb1.trans (BN.mono hb1.size)⟩
  have AC : Aside (∀ j u, (#[Value.int .i64 c, .int .i64 a, .slice sa sn sc, .bool o] : Array Value)[j]? = some u → (w1.alloc (.cells #[.int .i64 c, .int .i64 a, .slice sa sn sc, .bool o] 29)).cell? ⟨w1.heap.size, j, none⟩ = some u) := CN
  have A1 : Aside (e.isNil = (c == 0 && !o)) := e1
  clear he hN hlen hS hb1 e1 e2 e3 e4 e5 hd hkc hkp hbb BN CN
  go_wp2_with fail
  generalize hw2 : (w1.alloc (.cells #[.int .i64 c, .int .i64 a, .slice sa sn sc, .bool o] 29)) = w2 at A2 AC ⊢
  clear hw2
  generalize w1.heap.size = z at AC ⊢
  refine (fis_any e q _ A2.out.1).mono ?_; rintro ev w3 ⟨rfl, hb3⟩
  rw [A.out.2.2.2.1]
  have A3 : Aside (e.At w3 ∧ NamesAt w3 (.slice sa sn sc) ns ∧ Below w.heap.size w w3 ∧ w3.cell? ⟨0, 0, none⟩ = some (.iface 66 (.agg #[.pointer (some ⟨1, 26, none⟩)]))) := ⟨A2.out.1.mono hb3, A2.out.2.1.mono hb3, A2.out.2.2.trans (hb3.mono A2.out.2.2.size), below_cellOf (A2.out.2.2.trans (hb3.mono A2.out.2.2.size)) H.out.2.2.1⟩
  have k0 := below_cellOf hb3 (AC.out 0 (.int .i64 c) rfl)
  have k1 := below_cellOf hb3 (AC.out 1 (.int .i64 a) rfl)
  have k2 := below_cellOf hb3 (AC.out 2 (.slice sa sn sc) rfl)
  have k3 := below_cellOf hb3 (AC.out 3 (.bool o) rfl)
  clear hb3
  have k0 := cell_regrown k0
  have k1 := cell_regrown k1
  have k2 := cell_regrown k2
  have k3 := cell_regrown k3
  have BR : ∀ d os, Below w3.heap.size w3 (grow (redrawn w3 d) os) := fun d os => below_regrown w3 d os
  have c1 : ∀ d os, Calls Tryd.prog 9 #[e.val] (grow (redrawn w3 d) os) fun e w'' => e = .returned (.int .i64 kc) ∧ ∃ p : Regrown, w'' = grow (redrawn w3 p.d) p.os := fun d os => Calls.regrown_of (by
    have h := code_any e _ (A3.out.1.mono (BR d os)) (below_cellOf (BR d os) A3.out.2.2.2); rwa [A.out.1] at h)
  have c2 : ∀ d os, Calls Tryd.prog 10 #[.agg #[.int .i64 c, .int .i64 a, .slice sa sn sc, .bool o]] (grow (redrawn w3 d) os) fun e w'' => e = .returned (.int .i64 kc) ∧ ∃ p : Regrown, w'' = grow (redrawn w3 p.d) p.os := fun d os => Calls.regrown_of (by
    have h := refCode_any c a (.slice sa sn sc) o (grow (redrawn w3 d) os); rwa [AD.out.2.1] at h)
  have c3 : ∀ d os, Calls Tryd.prog 11 #[e.val] (grow (redrawn w3 d) os) fun e w'' => e = .returned (.int .i64 kp) ∧ ∃ p : Regrown, w'' = grow (redrawn w3 p.d) p.os := fun d os => Calls.regrown_of (by
    have h := at_any e _ (A3.out.1.mono (BR d os)) (below_cellOf (BR d os) A3.out.2.2.2); rwa [A.out.2.1] at h)
  have c4 : ∀ d os, Calls Tryd.prog 12 #[.agg #[.int .i64 c, .int .i64 a, .slice sa sn sc, .bool o]] (grow (redrawn w3 d) os) fun e w'' => e = .returned (.int .i64 kp) ∧ ∃ p : Regrown, w'' = grow (redrawn w3 p.d) p.os := fun d os => Calls.regrown_of (by
    have h := refAt_any c a (.slice sa sn sc) o (grow (redrawn w3 d) os); rwa [AD.out.2.2.1] at h)
  have c5 : ∀ d os, Calls Tryd.prog 13 #[e.val] (grow (redrawn w3 d) os) fun e w'' => e = .returned (.string dd) ∧ ∃ p : Regrown, w'' = grow (redrawn w3 p.d) p.os := fun d os => Calls.regrown_of (by
    have h := def_any e _ (A3.out.1.mono (BR d os)) (below_cellOf (BR d os) A3.out.2.2.2); rwa [A.out.2.2.1] at h)
  have c6 : ∀ d os, Calls Tryd.prog 14 #[.agg #[.int .i64 c, .int .i64 a, .slice sa sn sc, .bool o]] (grow (redrawn w3 d) os) fun e w'' => e = .returned (.string dd) ∧ ∃ p : Regrown, w'' = grow (redrawn w3 p.d) p.os := fun d os => Calls.regrown_of (by
    have h := refDef_any c a (.slice sa sn sc) ns A.out.2.2.2.2 o (grow (redrawn w3 d) os) (A3.out.2.1.mono (BR d os)); rwa [AD.out.1] at h)
  have c7 : ∀ d os, Calls Tryd.prog 15 #[.agg #[.int .i64 c, .int .i64 a, .slice sa sn sc, .bool o], .int .i64 q] (grow (redrawn w3 d) os) fun e w'' => e = .returned (.bool bb) ∧ ∃ p : Regrown, w'' = grow (redrawn w3 p.d) p.os := fun d os => Calls.regrown_of (by
    have h := refIs_any c a (.slice sa sn sc) o q (grow (redrawn w3 d) os); rwa [AD.out.2.2.2] at h)
  have c8 : ∀ d os, Calls Tryd.prog 6 #[] (grow (redrawn w3 d) os) fun e w'' => e = .returned (.bool true) ∧ ∃ p : Regrown, w'' = grow (redrawn w3 p.d) p.os := fun d os => Calls.regrown_of (by
    exact awake_any _ (below_cellOf (BR d os) A3.out.2.2.2))
  clear BR
  rcases Bool.eq_false_or_eq_true (c == 0) with hc | hc <;> rcases Bool.eq_false_or_eq_true o with ho | ho
  · subst ho
    have A5 : Aside (e.isNil = false) := by rw [Aside, A1.out, hc]; rfl
    have eg := egNil e A5.out
    have en := eqNilVal e A5.out
    go_wp2_with fail
    refine wp_region_quiet_below (by kernel_rfl) (by kernel_rfl) ?_
    repeat (go_big_quiet_step (first | exact c1 _ _ | exact c2 _ _ | exact c3 _ _ | exact c4 _ _ | exact c5 _ _ | exact c6 _ _ | exact c7 _ _ | exact c8 _ _))
    refine wpQuiet_nil ?_
    intro _ hw'
    obtain ⟨⟨dq, osq⟩, hw''⟩ := hw'
    obtain ⟨W2, hW2⟩ : ∃ W2, W2 = grow (redrawn w3 dq) osq := ⟨_, rfl⟩
    have hb4 : Below w3.heap.size w3 W2 := by rw [hW2]; exact below_regrown w3 dq osq
    subst hw''
    rw [← hW2]
    have A6 : Aside (Below w.heap.size w W2) := A3.out.2.2.1.trans (hb4.mono A3.out.2.2.1.size)
    clear hW2 hb4 c1 c2 c3 c4 c5 c6 c7 c8 k0 k1 k2 k3
    go_wp2
    go_ret
    exact ⟨rfl, A6.out⟩
  · subst ho
    have A5 : e = .nil := by
      have h : e.isNil = true := by rw [A1.out, hc]; rfl
      cases e <;> first | rfl | (simp [Er.isNil] at h; done)
    subst A5
    simp only [Er.val_nil] at c1 c3 c5 ⊢
    go_wp2_with fail
    refine wp_region_quiet_below (by kernel_rfl) (by kernel_rfl) ?_
    repeat (go_big_quiet_step (first | exact c1 _ _ | exact c2 _ _ | exact c3 _ _ | exact c4 _ _ | exact c5 _ _ | exact c6 _ _ | exact c7 _ _ | exact c8 _ _))
    refine wpQuiet_nil ?_
    intro _ hw'
    obtain ⟨⟨dq, osq⟩, hw''⟩ := hw'
    obtain ⟨W2, hW2⟩ : ∃ W2, W2 = grow (redrawn w3 dq) osq := ⟨_, rfl⟩
    have hb4 : Below w3.heap.size w3 W2 := by rw [hW2]; exact below_regrown w3 dq osq
    subst hw''
    rw [← hW2]
    have A6 : Aside (Below w.heap.size w W2) := A3.out.2.2.1.trans (hb4.mono A3.out.2.2.1.size)
    clear hW2 hb4 c1 c2 c3 c4 c5 c6 c7 c8 k0 k1 k2 k3
    go_wp2
    go_ret
    exact ⟨rfl, A6.out⟩
  · subst ho
    have A5 : Aside (e.isNil = false) := by rw [Aside, A1.out, hc]; rfl
    have eg := egNil e A5.out
    have en := eqNilVal e A5.out
    go_wp2_with fail
    refine wp_region_quiet_below (by kernel_rfl) (by kernel_rfl) ?_
    repeat (go_big_quiet_step (first | exact c1 _ _ | exact c2 _ _ | exact c3 _ _ | exact c4 _ _ | exact c5 _ _ | exact c6 _ _ | exact c7 _ _ | exact c8 _ _))
    refine wpQuiet_nil ?_
    intro _ hw'
    obtain ⟨⟨dq, osq⟩, hw''⟩ := hw'
    obtain ⟨W2, hW2⟩ : ∃ W2, W2 = grow (redrawn w3 dq) osq := ⟨_, rfl⟩
    have hb4 : Below w3.heap.size w3 W2 := by rw [hW2]; exact below_regrown w3 dq osq
    subst hw''
    rw [← hW2]
    have A6 : Aside (Below w.heap.size w W2) := A3.out.2.2.1.trans (hb4.mono A3.out.2.2.1.size)
    clear hW2 hb4 c1 c2 c3 c4 c5 c6 c7 c8 k0 k1 k2 k3
    go_wp2
    go_ret
    exact ⟨rfl, A6.out⟩
  · subst ho
    have A5 : Aside (e.isNil = false) := by rw [Aside, A1.out, hc]; rfl
    have eg := egNil e A5.out
    have en := eqNilVal e A5.out
    go_wp2_with fail
    refine wp_region_quiet_below (by kernel_rfl) (by kernel_rfl) ?_
    repeat (go_big_quiet_step (first | exact c1 _ _ | exact c2 _ _ | exact c3 _ _ | exact c4 _ _ | exact c5 _ _ | exact c6 _ _ | exact c7 _ _ | exact c8 _ _))
    refine wpQuiet_nil ?_
    intro _ hw'
    obtain ⟨⟨dq, osq⟩, hw''⟩ := hw'
    obtain ⟨W2, hW2⟩ : ∃ W2, W2 = grow (redrawn w3 dq) osq := ⟨_, rfl⟩
    have hb4 : Below w3.heap.size w3 W2 := by rw [hW2]; exact below_regrown w3 dq osq
    subst hw''
    rw [← hW2]
    have A6 : Aside (Below w.heap.size w W2) := A3.out.2.2.1.trans (hb4.mono A3.out.2.2.1.size)
    clear hW2 hb4 c1 c2 c3 c4 c5 c6 c7 c8 k0 k1 k2 k3
    go_wp2
    go_ret
    exact ⟨rfl, A6.out⟩
end Go.Proofs.YtdnjfdkjjenmdaaDoor
