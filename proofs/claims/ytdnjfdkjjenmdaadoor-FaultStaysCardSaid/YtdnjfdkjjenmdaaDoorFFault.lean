/- Package fault: find, Code, At, Def, Is, In, New. -/
import Derived.Test.YtdnjfdkjjenmdaaDoorFAsP
import Derived.Test.YtdnjfdkjjenmdaaDoorFAsN
namespace Go.Proofs.YtdnjfdkjjenmdaaDoor
open Go.RowKit Go.Extern.Stop Go.Stop Go.Extern
theorem idleP (w : World) : CallsD Tryd.prog 24 #[] .returning w fun e u' w' => e = .returned (.tuple #[]) ∧ u' = .returning ∧ w' = w := by
  refine callsD_of_wpS Tryd.func24 rfl fun c₀ cs hu => ?_
  apply wpS_region
  simp [wpOpsS, go_sem, recoverD, hu, Tryd.ntmps24]
  cases c₀
  simp_all [bodyPostS, results, Tryd.results24]
theorem idleN (w : World) : CallsD Tryd.prog 26 #[] .returning w fun e u' w' => e = .returned (.tuple #[]) ∧ u' = .returning ∧ w' = w := by
  refine callsD_of_wpS Tryd.func26 rfl fun c₀ cs hu => ?_
  apply wpS_region
  simp [wpOpsS, go_sem, recoverD, hu, Tryd.ntmps26]
  cases c₀
  simp_all [bodyPostS, results, Tryd.results26]
theorem idleI (w : World) : CallsD Tryd.prog 18 #[] .returning w fun e u' w' => e = .returned (.tuple #[]) ∧ u' = .returning ∧ w' = w := by
  refine callsD_of_wpS Tryd.func18 rfl fun c₀ cs hu => ?_
  apply wpS_region
  simp [wpOpsS, go_sem, recoverD, hu, Tryd.ntmps18]
  cases c₀
  simp_all [bodyPostS, results, Tryd.results18]

theorem find_P (x : Er) (c a : Int) (w : World) (hx : x.At w) (hg : w.cell? ⟨0, 0, none⟩ = some (.iface 66 (.agg #[.pointer (some ⟨1, 26, none⟩)]))) (hca : x.plc.getD (0, 0) = (c, a)) :
    Calls Tryd.prog 20 #[x.val] w fun ev w' => ev = .returned (.agg #[.int .i64 c, .int .i64 a]) ∧ Below w.heap.size w w' := by
  have hB : Below w.heap.size w (w.alloc (.cells #[.int .i64 0, .int .i64 0] 52)) := (Below.refl _ _).alloc (Nat.le_refl _) _
  have hfr : FreshP w.heap.size (w.alloc (.cells #[.int .i64 0, .int .i64 0] 52)) := ⟨cell_alloc_newP _ _ _ 0 _ rfl, cell_alloc_newP _ _ _ 1 _ rfl, by simp [go_sem], by simp [go_sem]⟩
  have H : Aside (x.At w ∧ x.plc.getD (0, 0) = (c, a) ∧ Below w.heap.size w (w.alloc (.cells #[.int .i64 0, .int .i64 0] 52)) ∧ FreshP w.heap.size (w.alloc (.cells #[.int .i64 0, .int .i64 0] 52)) ∧ w.cell? ⟨0, 0, none⟩ = some (.iface 66 (.agg #[.pointer (some ⟨1, 26, none⟩)]))) := ⟨hx, hca, hB, hfr, hg⟩
  clear hx hca hB hfr hg
  go_enter_defers Tryd.func20, Tryd.ntmps20
  go_wp2_with (go_at_call 25; refine (errorsAsP x w.heap.size _ (H.out.1.mono H.out.2.2.1) (below_cellOf H.out.2.2.1 H.out.2.2.2.2) H.out.2.2.2.1).mono ?_; rintro ev w3 ⟨rfl, hb3, hgot⟩; unfold GotP at hgot; rw [H.out.2.1] at hgot; obtain ⟨g0, g1, g2, g3⟩ := hgot)
  have B4 : Below w.heap.size w ((w3.setCell ⟨w.heap.size, 0, none⟩ (.int .i64 c)).setCell ⟨w.heap.size, 1, none⟩ (.int .i64 a)) := ((H.out.2.2.1.trans hb3).setCell (Nat.le_refl _) _).setCell (Nat.le_refl _) _
  have k0 : ((w3.setCell ⟨w.heap.size, 0, none⟩ (.int .i64 c)).setCell ⟨w.heap.size, 1, none⟩ (.int .i64 a)).cell? ⟨w.heap.size, 0, none⟩ = some (.int .i64 c) := by
    rw [World.cell?_setCell_other _ _ _ _ (by simp), World.cell?_setCell_same _ _ _ g0]
  have k1 : ((w3.setCell ⟨w.heap.size, 0, none⟩ (.int .i64 c)).setCell ⟨w.heap.size, 1, none⟩ (.int .i64 a)).cell? ⟨w.heap.size, 1, none⟩ = some (.int .i64 a) := by
    rw [World.cell?_setCell_same (u := .int .i64 a) _ _ _ (by rw [World.cell?_setCell_other _ _ _ _ (by simp)]; exact g1)]
  generalize ((w3.setCell ⟨w.heap.size, 0, none⟩ (.int .i64 c)).setCell ⟨w.heap.size, 1, none⟩ (.int .i64 a)) = w4 at B4 k0 k1 ⊢
  refine leaves_cons (f := 24) (args := #[]) (by simp) (by simp [go_sem]) ?_
  refine (idleP _).mono ?_
  rintro e u' w'' ⟨rfl, rfl, rfl⟩
  simp [Leaves, settle, results, Tryd.results20, go_sem, k0, k1, B4]

theorem find_N (x : Er) (w : World) (hx : x.At w) (hg : w.cell? ⟨0, 0, none⟩ = some (.iface 66 (.agg #[.pointer (some ⟨1, 26, none⟩)]))) :
    Calls Tryd.prog 21 #[x.val] w fun ev w' => ev = .returned (.pointer x.strip.ptr) ∧ Below w.heap.size w w' := by
  generalize hp : x.strip.ptr = pp
  have hB : Below w.heap.size w (w.alloc (.cells #[.pointer none] 54)) := (Below.refl _ _).alloc (Nat.le_refl _) _
  have hfr : FreshN w.heap.size (w.alloc (.cells #[.pointer none] 54)) := ⟨cell_alloc_newN _ _ _ 0 _ rfl, by simp [go_sem]⟩
  have H : Aside (x.At w ∧ x.strip.ptr = pp ∧ Below w.heap.size w (w.alloc (.cells #[.pointer none] 54)) ∧ FreshN w.heap.size (w.alloc (.cells #[.pointer none] 54)) ∧ w.cell? ⟨0, 0, none⟩ = some (.iface 66 (.agg #[.pointer (some ⟨1, 26, none⟩)]))) := ⟨hx, hp, hB, hfr, hg⟩
  clear hx hp hB hfr hg
  go_enter_defers Tryd.func21, Tryd.ntmps21
  go_wp2_with (go_at_call 25; refine (errorsAsN x w.heap.size _ (H.out.1.mono H.out.2.2.1) (below_cellOf H.out.2.2.1 H.out.2.2.2.2) H.out.2.2.2.1).mono ?_; rintro ev w3 ⟨rfl, hb3, hgot⟩; unfold GotN at hgot; rw [H.out.2.1] at hgot; obtain ⟨g0, g2⟩ := hgot)
  have B4 : Below w.heap.size w (w3.setCell ⟨w.heap.size, 0, none⟩ (.pointer pp)) := (H.out.2.2.1.trans hb3).setCell (Nat.le_refl _) _
  have k0 : (w3.setCell ⟨w.heap.size, 0, none⟩ (.pointer pp)).cell? ⟨w.heap.size, 0, none⟩ = some (.pointer pp) := by
    rw [World.cell?_setCell_same _ _ _ g0]
  generalize (w3.setCell ⟨w.heap.size, 0, none⟩ (.pointer pp)) = w4 at B4 k0 ⊢
  refine leaves_cons (f := 26) (args := #[]) (by simp) (by simp [go_sem]) ?_
  refine (idleN _).mono ?_
  rintro e u' w'' ⟨rfl, rfl, rfl⟩
  simp [Leaves, settle, results, Tryd.results21, go_sem, k0, B4]

def Er.code (x : Er) : Int := if x.isNil = true then 0 else if ((x.plc.getD (0, 0)).1 == 0 && (x.plc.getD (0, 0)).2 == 0) = true then 23 else (x.plc.getD (0, 0)).1
def Er.pos (x : Er) : Int := if ((x.plc.getD (0, 0)).1 == 0 && (x.plc.getD (0, 0)).2 == 0) = true then -1 else (x.plc.getD (0, 0)).2
def Er.isCode (c : Int) (x : Er) : Bool := if x.isNil = true then c == 0 else x.isIn c

theorem eqgPlaced : Tryd.prog.eqGuardType Tryd.prog.depth 52 = false := by kernel_rfl

theorem code_any (x : Er) (w : World) (hx : x.At w) (hg : w.cell? ⟨0, 0, none⟩ = some (.iface 66 (.agg #[.pointer (some ⟨1, 26, none⟩)]))) :
    Calls Tryd.prog 9 #[x.val] w fun ev w' => ev = .returned (.int .i64 x.code) ∧ Below w.heap.size w w' := by
  rcases Bool.eq_false_or_eq_true x.isNil with h | h
  · cases x <;> simp [Er.isNil] at h
    simp only [Er.val]
    go_enter Tryd.func9, Tryd.ntmps9
    go_wp2
    go_ret
    exact ⟨rfl, Below.refl _ _⟩
  · have eg := egNil x h; have en := eqNilVal x h
    have np := nePlaced
    have ng := eqgPlaced
    generalize hc : (x.plc.getD (0, 0)).1 = c
    generalize ha : (x.plc.getD (0, 0)).2 = a
    have H : Aside (x.At w ∧ x.plc.getD (0, 0) = (c, a) ∧ w.cell? ⟨0, 0, none⟩ = some (.iface 66 (.agg #[.pointer (some ⟨1, 26, none⟩)])) ∧ x.code = if (c == 0 && a == 0) = true then 23 else c) := ⟨hx, by rw [← hc, ← ha], hg, by unfold Er.code; rw [h, hc, ha]; rfl⟩
    clear hx hc ha hg h
    rw [H.out.2.2.2]
    rcases Bool.eq_false_or_eq_true (c == 0 && a == 0) with hz | hz
    all_goals
      simp only [hz, if_true, Bool.false_eq_true, if_false]
      go_enter Tryd.func9, Tryd.ntmps9
      go_wp2_with (go_at_call 20; refine (find_P x c a _ H.out.1 H.out.2.2.1 H.out.2.1).mono ?_; rintro ev w1 ⟨rfl, hb1⟩)
      go_ret
      exact ⟨rfl, hb1.alloc hb1.size _⟩

theorem at_any (x : Er) (w : World) (hx : x.At w) (hg : w.cell? ⟨0, 0, none⟩ = some (.iface 66 (.agg #[.pointer (some ⟨1, 26, none⟩)]))) :
    Calls Tryd.prog 11 #[x.val] w fun ev w' => ev = .returned (.int .i64 x.pos) ∧ Below w.heap.size w w' := by
  have np := nePlaced
  have ng := eqgPlaced
  generalize hc : (x.plc.getD (0, 0)).1 = c
  generalize ha : (x.plc.getD (0, 0)).2 = a
  have H : Aside (x.At w ∧ x.plc.getD (0, 0) = (c, a) ∧ w.cell? ⟨0, 0, none⟩ = some (.iface 66 (.agg #[.pointer (some ⟨1, 26, none⟩)])) ∧ x.pos = if (c == 0 && a == 0) = true then -1 else a) := ⟨hx, by rw [← hc, ← ha], hg, by unfold Er.pos; rw [hc, ha]⟩
  clear hx hc ha hg
  rw [H.out.2.2.2]
  rcases Bool.eq_false_or_eq_true (c == 0 && a == 0) with hz | hz
  all_goals
    simp only [hz, if_true, Bool.false_eq_true, if_false]
    go_enter Tryd.func11, Tryd.ntmps11
    go_wp2_with (go_at_call 20; refine (find_P x c a _ H.out.1 H.out.2.2.1 H.out.2.1).mono ?_; rintro ev w1 ⟨rfl, hb1⟩)
    go_ret
    exact ⟨rfl, hb1.alloc hb1.size _⟩

theorem fis_any (x : Er) (c : Int) (w : World) (hx : x.At w) :
    Calls Tryd.prog 8 #[x.val, .int .i64 c] w fun ev w' => ev = .returned (.bool (x.isCode c)) ∧ Below w.heap.size w w' := by
  rcases Bool.eq_false_or_eq_true x.isNil with h | h
  · cases x <;> simp [Er.isNil] at h
    simp only [Er.val, Er.isCode, Er.isNil]
    go_enter_defers Tryd.func8, Tryd.ntmps8
    go_wp2
    exact ⟨_, results_tmp rfl _ _ _, rfl, Below.refl _ _⟩
  · have eg := egNil x h; have en := eqNilVal x h
    have H : Aside (x.At w ∧ x.isNil = false) := ⟨hx, h⟩
    clear hx h
    go_enter_defers Tryd.func8, Tryd.ntmps8
    go_wp2_with (go_at_call 19; refine (errorsIs x c _ H.out.1).mono ?_; rintro ev w1 ⟨rfl, hb1⟩)
    refine leaves_cons (f := 18) (args := #[]) (by simp) (by simp [go_sem]) ?_
    refine (idleI _).mono ?_
    rintro e u' w'' ⟨rfl, rfl, rfl⟩
    have hfin : x.isCode c = x.isIn c := by unfold Er.isCode; rw [H.out.2]; rfl
    simp [Leaves, settle, results, Tryd.results8, go_sem, hb1, hfin]

theorem Er.strip_form : ∀ x : Er, x.strip = .nil ∨ ∃ b d i, x.strip = .nam b d i
  | .nil => .inl rfl
  | .num _ => .inl rfl
  | .placed _ _ => .inl rfl
  | .str _ i => Er.strip_form i
  | .nam b d i => .inr ⟨b, d, i, rfl⟩

theorem Er.ptr_nil : Er.nil.ptr = none := rfl
theorem Er.ptr_nam (b : Nat) (d : ByteArray) (i : Er) : (Er.nam b d i).ptr = some ⟨b, 0, none⟩ := rfl
theorem def_any (x : Er) (w : World) (hx : x.At w) (hg : w.cell? ⟨0, 0, none⟩ = some (.iface 66 (.agg #[.pointer (some ⟨1, 26, none⟩)]))) :
    Calls Tryd.prog 13 #[x.val] w fun ev w' => ev = .returned (.string (x.defFrom ⟨#[]⟩)) ∧ Below w.heap.size w w' := by
  generalize hT : x.defFrom ⟨#[]⟩ = tgt
  have H : Aside (x.At w ∧ x.defFrom ⟨#[]⟩ = tgt ∧ w.cell? ⟨0, 0, none⟩ = some (.iface 66 (.agg #[.pointer (some ⟨1, 26, none⟩)]))) := ⟨hx, hT, hg⟩
  clear hx hT hg
  go_enter Tryd.func13, Tryd.ntmps13
  go_wp2_with (go_at_call 21; refine (find_N x _ H.out.1 H.out.2.2).mono ?_; rintro ev w1 ⟨rfl, hb1⟩)
  have A : Aside (Below w.heap.size w w1) := hb1
  clear hb1
  go_loopg [3, 4] x.strip.depth (fun k p3 p4 wr => ∃ (y : Er) (d : ByteArray), (y = .nil ∨ ∃ b d i, y = .nam b d i) ∧ p4 = .pointer y.ptr ∧ p3 = .string d ∧ y.defFrom d = tgt ∧ y.At wr ∧ y.depth = k ∧ Below w.heap.size w wr)
  case atStart => exact ⟨x.strip, _, x.strip_form, rfl, rfl, by rw [Er.strip_def, H.out.2.1], Er.strip_at (H.out.1.mono A.out), rfl, A.out⟩
  case round =>
    obtain ⟨y, d, hform, rfl, rfl, hdef, hy, hk, hb⟩ := hrel
    rcases hform with rfl | ⟨b, dd, i, rfl⟩
    · have HH : Aside (Er.nil.defFrom d = tgt ∧ Below w.heap.size w wr) := ⟨hdef, hb⟩
      clear hdef hb hk hy
      simp only [Er.ptr_nil, Er.ptr_nam]
      go_wp2
      go_ret
      exact ⟨by rw [← HH.out.1]; rfl, HH.out.2⟩
    · have HH : Aside ((Er.nam b dd i).defFrom d = tgt ∧ Below w.heap.size w wr ∧ (Er.nam b dd i).depth = gk ∧ i.At wr ∧ wr.cell? ⟨0, 0, none⟩ = some (.iface 66 (.agg #[.pointer (some ⟨1, 26, none⟩)]))) := ⟨hdef, hb, hk, hy.2.2, below_cellOf hb H.out.2.2⟩
      have hy1 := hy.1
      have hy2 := hy.2.1
      clear hdef hb hk hy
      simp only [Er.ptr_nil, Er.ptr_nam]
      go_wp2_with (go_at_call 21; refine (find_N i _ HH.out.2.2.2.1 HH.out.2.2.2.2).mono ?_; rintro ev w2 ⟨rfl, hb2⟩)
      go_roundg i.strip.depth
      case measure => have := HH.out.2.2.1; have := i.strip_depth; simp [Er.depth] at *; omega
      case rel => exact ⟨i.strip, dd, i.strip_form, rfl, rfl, by rw [Er.strip_def]; exact HH.out.1, Er.strip_at (HH.out.2.2.2.1.mono hb2), rfl, HH.out.2.1.trans (hb2.mono HH.out.2.1.size)⟩

def newE (c a : Int) : Er := if (c == 0) = true then .nil else .placed c a
theorem new_any (c a : Int) (w : World) : Calls Tryd.prog 17 #[.int .i64 c, .int .i64 a] w fun ev w' => ev = .returned (newE c a).val ∧ w = w' := by
  unfold newE
  rcases Bool.eq_false_or_eq_true (c == 0) with h | h
  all_goals
    simp only [h, if_true, Bool.false_eq_true, if_false, Er.val]
    go_enter Tryd.func17, Tryd.ntmps17
    go_wp2
    go_ret
    exact ⟨rfl, rfl⟩
theorem Er.val_iface (x : Er) (h : x.isNil = false) : ∃ t v, x.val = .iface t v := by
  cases x <;> first | (simp [Er.isNil] at h; done) | exact ⟨_, _, rfl⟩
theorem in_any (d : ByteArray) (x : Er) (w : World) (hx : x.At w) : Calls Tryd.prog 16 #[.string d, x.val] w fun ev w' => Below w.heap.size w w' ∧ (if x.isNil = true then ev = .returned .nilIface else ev = .returned (Er.nam w.heap.size d x).val ∧ (Er.nam w.heap.size d x).At w') := by
  rcases Bool.eq_false_or_eq_true x.isNil with h | h
  · cases x <;> simp [Er.isNil] at h
    simp only [Er.val, Er.isNil, if_true]
    go_enter Tryd.func16, Tryd.ntmps16
    go_wp2
    go_ret
    exact ⟨Below.refl _ _, rfl⟩
  · have eg := egNil x h; have en := eqNilVal x h
    obtain ⟨t, v, hv⟩ := x.val_iface h
    have H : Aside (x.At w ∧ x.val = .iface t v) := ⟨hx, hv⟩
    simp only [h, Bool.false_eq_true, if_false]
    rw [hv] at eg en ⊢
    clear hx hv
    go_enter Tryd.func16, Tryd.ntmps16
    go_wp2
    go_ret
    have hB : Below w.heap.size w (w.alloc (.cells #[.string d, .iface t v] 57)) := (Below.refl _ _).alloc (Nat.le_refl _) _
    exact ⟨hB, rfl, cell_alloc_newN _ _ _ 0 _ rfl, by rw [H.out.2]; exact cell_alloc_newN _ _ _ 1 _ rfl, H.out.1.mono hB⟩
end Go.Proofs.YtdnjfdkjjenmdaaDoor
