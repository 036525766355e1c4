/- errors.As over a chain, at the target *fault.placed. -/
import Derived.Test.YtdnjfdkjjenmdaaDoorFIs
import Derived.Test.YtdnjfdkjjenmdaaDoorFRefl
namespace Go.Proofs.YtdnjfdkjjenmdaaDoor
open Go.RowKit Go.Extern.Stop Go.Stop Go.Extern
/-- What the target holds behind the search. -/
def GotP (tb : Nat) (x : Er) (w' : World) : Prop := w'.cell? ⟨tb, 0, none⟩ = some (.int .i64 (x.plc.getD (0, 0)).1) ∧ w'.cell? ⟨tb, 1, none⟩ = some (.int .i64 (x.plc.getD (0, 0)).2) ∧ w'.frozen? ⟨tb, 0, none⟩ = false ∧ w'.frozen? ⟨tb, 1, none⟩ = false
def FreshP (tb : Nat) (w : World) : Prop := w.cell? ⟨tb, 0, none⟩ = some (.int .i64 0) ∧ w.cell? ⟨tb, 1, none⟩ = some (.int .i64 0) ∧ w.frozen? ⟨tb, 0, none⟩ = false ∧ w.frozen? ⟨tb, 1, none⟩ = false
theorem FreshP.keep {tb : Nat} {w w' : World} (h : FreshP tb w) (hb : Below w.heap.size w w') : FreshP tb w' := by
  have hlt : tb < w.heap.size := World.block_lt_of_cell? w _ h.1
  exact ⟨below_cellOf hb h.1, below_cellOf hb h.2.1, (hb.frozen hlt).trans h.2.2.1, (hb.frozen hlt).trans h.2.2.2⟩
theorem FreshP.got {tb : Nat} {w : World} {x : Er} (h : FreshP tb w) (hx : x.plc = none) : GotP tb x w := by
  unfold GotP; rw [hx]; exact h
theorem cell_alloc_newP (w : World) (vs : Array Value) (t : TypeId) (i : Nat) (v : Value) (h : vs[i]? = some v) : (w.alloc (.cells vs t)).cell? ⟨w.heap.size, i, none⟩ = some v := by
  rw [World.cell?_alloc_at _ _ _ _ (by simp)]
  simpa using h
set_option maxRecDepth 8000 in
set_option maxHeartbeats 2000000 in
theorem as_P (x : Er) (n tb vb : Nat) (w : World) (hx : x.At w) (hxn : x.isNil = false) (hv : w.cell? ⟨vb, 0, none⟩ = some (.pointer (some ⟨tb, 0, none⟩))) (hfr : FreshP tb w) (hn : n ≤ tb) (hnw : n ≤ w.heap.size) :
    Calls Tryd.prog 30 #[x.val, .iface 63 (.pointer (some ⟨tb, 0, none⟩)), .agg #[.pointer (some ⟨1, 63, none⟩), .pointer (some ⟨vb, 0, none⟩), .int .u64 150], .iface 66 (.agg #[.pointer (some ⟨1, 52, none⟩)])] w fun ev w' => ev = .returned (.bool x.plc.isSome) ∧ Below n w w' ∧ GotP tb x w' := by
  have q0 := typeOfP
  have q1 := typeOfN
  have q2 := typeOfS
  have q3 := typeOfE
  have q4 := noAsP
  have q5 := noAsN
  have q6 := noAsS
  have q7 := noAsE
  have q8 := asgPP
  have q9 := asgPN
  have q10 := asgPS
  have q11 := asgPE
  have q12 := methodAssignableTo
  have q13 := noUnwrapE
  have q14 := noUnwrapsE
  have q15 := hasUnwrapP
  have q16 := hasUnwrapS
  have q17 := hasUnwrapN
  have q18 := methodUnwrapP
  have q19 := methodUnwrapS
  have q20 := methodUnwrapN
  have q21 := elemVP
  have q22 := valueOfP
  have H : Aside (x.At w ∧ x.isNil = false ∧ w.cell? ⟨vb, 0, none⟩ = some (.pointer (some ⟨tb, 0, none⟩)) ∧ FreshP tb w ∧ n ≤ tb ∧ n ≤ w.heap.size) := ⟨hx, hxn, hv, hfr, hn, hnw⟩
  clear hx hxn hv hfr hn hnw
  go_enter Tryd.func30, Tryd.ntmps30
  go_wp2
  have B1 : Aside (Below w.heap.size w (w.alloc (.cells #[.pointer (some ⟨1, 63, none⟩), .pointer (some ⟨vb, 0, none⟩), .int .u64 150] 79))) := (Below.refl _ _).alloc (Nat.le_refl _) _
  have C : Aside (∀ i v, (#[.pointer (some ⟨1, 63, none⟩), Value.pointer (some ⟨vb, 0, none⟩), .int .u64 150] : Array Value)[i]? = some v → (w.alloc (.cells #[.pointer (some ⟨1, 63, none⟩), .pointer (some ⟨vb, 0, none⟩), .int .u64 150] 79)).cell? ⟨w.heap.size, i, none⟩ = some v) := fun i v h => cell_alloc_newP w _ _ i v h
  generalize hw1 : w.alloc (.cells #[.pointer (some ⟨1, 63, none⟩), .pointer (some ⟨vb, 0, none⟩), .int .u64 150] 79) = w1 at B1 C
  clear hw1
  go_loopg [0] x.depth (fun k p wr => ∃ y : Er, p = y.val ∧ y.At wr ∧ y.isNil = false ∧ y.plc = x.plc ∧ y.depth = k ∧ Below w1.heap.size w1 wr)
  case atStart => exact ⟨x, rfl, H.out.1.mono B1.out, H.out.2.1, rfl, rfl, Below.refl _ _⟩
  case round =>
    obtain ⟨y, rfl, hy, hyn, hin, hk, hb⟩ := hrel
    have hbw : Below w.heap.size w wr := B1.out.trans (hb.mono B1.out.size)
    have HH : Aside (y.plc = x.plc ∧ y.depth = gk ∧ Below w1.heap.size w1 wr ∧ y.isNil = false ∧ Below w.heap.size w wr) := ⟨hin, hk, hb, hyn, hbw⟩
    clear hin hk hb hyn hbw
    cases y with
    | nil => exact absurd HH.out.2.2.2.1 (by simp [Er.isNil])
    | num c =>
      simp only [Er.val]
      go_wp2
      go_ret
      exact ⟨ret_bool (by rw [← HH.out.1]; rfl), HH.out.2.2.2.2.mono H.out.2.2.2.2.2, (H.out.2.2.2.1.keep HH.out.2.2.2.2).got (by rw [← HH.out.1]; rfl)⟩
    | placed c a =>
      simp only [Er.val]
      have hc0 := below_cellOf HH.out.2.2.1 (C.out 0 _ rfl)
      have hc1 := below_cellOf HH.out.2.2.1 (C.out 1 _ rfl)
      have hc2 := below_cellOf HH.out.2.2.1 (C.out 2 _ rfl)
      have hvb := below_cellOf HH.out.2.2.2.2 H.out.2.2.1
      have F := H.out.2.2.2.1.keep HH.out.2.2.2.2
      have hlt : tb < wr.heap.size := World.block_lt_of_cell? wr _ F.1
      have hst := setP tb wr.heap.size c a (.int .i64 0) (.int .i64 0) (wr.alloc (.cells #[.int .i64 c, .int .i64 a] 52)) (cell_alloc_newP _ _ _ 0 _ rfl) (cell_alloc_newP _ _ _ 1 _ rfl)
        (by rw [World.cell?_alloc_lt _ _ _ hlt]; exact F.1) (by rw [World.cell?_alloc_lt _ _ _ hlt]; exact F.2.1) (by rw [World.frozen?_alloc_old _ _ _ (Nat.ne_of_lt hlt)]; exact F.2.2.1) (by rw [World.frozen?_alloc_old _ _ _ (Nat.ne_of_lt hlt)]; exact F.2.2.2)
      have hnew : FreshP tb (wr.alloc (.cells #[.int .i64 c, .int .i64 a] 52)) := F.keep ((Below.refl _ _).alloc (Nat.le_refl _) _)
      have FF : Aside (FreshP tb (wr.alloc (.cells #[.int .i64 c, .int .i64 a] 52)) ∧ FreshP tb wr ∧ tb < wr.heap.size) := ⟨hnew, F, hlt⟩
      clear hnew F hlt
      go_wp2
      go_ret
      refine ⟨ret_bool (by rw [← HH.out.1]; rfl), ?_, ?_⟩
      · exact (((HH.out.2.2.2.2.mono H.out.2.2.2.2.2).alloc (Nat.le_trans H.out.2.2.2.2.2 HH.out.2.2.2.2.size) _).setCell H.out.2.2.2.2.1 _).setCell H.out.2.2.2.2.1 _
      · refine ⟨?_, ?_, ?_, ?_⟩
        · rw [World.cell?_setCell_other _ _ _ _ (by simp), World.cell?_setCell_same _ _ _ FF.out.1.1, ← HH.out.1]; rfl
        · rw [World.cell?_setCell_same (u := .int .i64 0) _ _ _ (by rw [World.cell?_setCell_other _ _ _ _ (by simp)]; exact FF.out.1.2.1), ← HH.out.1]; rfl
        · simp only [World.frozen?_setCell]; exact FF.out.1.2.2.1
        · simp only [World.frozen?_setCell]; exact FF.out.1.2.2.2
    | str b i =>
      simp only [Er.val]
      rcases Bool.eq_false_or_eq_true i.isNil with h | h
      · cases i <;> simp [Er.isNil] at h
        go_wp2_with (go_at_call 52; refine (unwrapStr _ .nilIface _ hy.1).mono ?_; rintro ev w2 ⟨rfl, rfl⟩)
        go_ret
        exact ⟨ret_bool (by rw [← HH.out.1]; rfl), HH.out.2.2.2.2.mono H.out.2.2.2.2.2, (H.out.2.2.2.1.keep HH.out.2.2.2.2).got (by rw [← HH.out.1]; rfl)⟩
      · have eg := egNil i h; have en := eqNilVal i h
        go_wp2_with (go_at_call 52; refine (unwrapStr _ _ _ hy.1).mono ?_; rintro ev w2 ⟨rfl, rfl⟩)
        go_roundg i.depth
        case measure => have := HH.out.2.1; simp [Er.depth] at this; omega
        case rel => exact ⟨i, rfl, hy.2, h, HH.out.1, rfl, HH.out.2.2.1⟩
    | nam b d i =>
      simp only [Er.val]
      rcases Bool.eq_false_or_eq_true i.isNil with h | h
      · cases i <;> simp [Er.isNil] at h
        go_wp2_with (go_at_call 56; refine (unwrapNam _ .nilIface _ hy.2.1).mono ?_; rintro ev w2 ⟨rfl, rfl⟩)
        go_ret
        exact ⟨ret_bool (by rw [← HH.out.1]; rfl), HH.out.2.2.2.2.mono H.out.2.2.2.2.2, (H.out.2.2.2.1.keep HH.out.2.2.2.2).got (by rw [← HH.out.1]; rfl)⟩
      · have eg := egNil i h; have en := eqNilVal i h
        go_wp2_with (go_at_call 56; refine (unwrapNam _ _ _ hy.2.1).mono ?_; rintro ev w2 ⟨rfl, rfl⟩)
        go_roundg i.depth
        case measure => have := HH.out.2.1; simp [Er.depth] at this; omega
        case rel => exact ⟨i, rfl, hy.2.2, h, HH.out.1, rfl, HH.out.2.2.1⟩

set_option maxRecDepth 8000 in
set_option maxHeartbeats 2000000 in
theorem errorsAsP (x : Er) (tb : Nat) (w : World) (hx : x.At w) (hg : w.cell? ⟨0, 0, none⟩ = some (.iface 66 (.agg #[.pointer (some ⟨1, 26, none⟩)]))) (hfr : FreshP tb w) :
    Calls Tryd.prog 25 #[x.val, .iface 63 (.pointer (some ⟨tb, 0, none⟩))] w fun ev w' => ev = .returned (.bool x.plc.isSome) ∧ Below tb w w' ∧ GotP tb x w' := by
  rcases Bool.eq_false_or_eq_true x.isNil with h | h
  · cases x <;> simp [Er.isNil] at h
    simp only [Er.val]
    have F : Aside (FreshP tb w) := hfr
    clear hfr
    go_enter Tryd.func25, Tryd.ntmps25
    go_wp2
    go_ret
    exact ⟨rfl, Below.refl _ _, F.out.got rfl⟩
  · have eg := egNil x h; have en := eqNilVal x h
    have q1 := valueOfPT
    have q2 := typeP
    have q3 := methodKind
    have q4 := kindPT
    have q5 := kindPE
    have q6 := methodElem
    have q7 := elemP
    have q8 := methodImplements
    have q9 := implP
    have q10 := isNilP
    have hlt0 : (0 : Nat) < w.heap.size := World.block_lt_of_cell? w _ hg
    have htb : tb < w.heap.size := World.block_lt_of_cell? w _ hfr.1
    have B2 : Below w.heap.size w ((w.alloc (.cells #[.pointer (some ⟨tb, 0, none⟩)] 63)).alloc (.cells #[.pointer (some ⟨1, 63, none⟩), .pointer (some ⟨w.heap.size, 0, none⟩), .int .u64 150] 79)) := ((Below.refl _ _).alloc (Nat.le_refl _) _).alloc (by simp) _
    have hg2 := below_cellOf B2 hg
    have hvb : ((w.alloc (.cells #[.pointer (some ⟨tb, 0, none⟩)] 63)).alloc (.cells #[.pointer (some ⟨1, 63, none⟩), .pointer (some ⟨w.heap.size, 0, none⟩), .int .u64 150] 79)).cell? ⟨w.heap.size, 0, none⟩ = some (.pointer (some ⟨tb, 0, none⟩)) := by
      rw [World.cell?_alloc_lt _ _ _ (by simp)]; exact cell_alloc_newP _ _ _ 0 _ rfl
    have H : Aside (x.At w ∧ FreshP tb w ∧ tb < w.heap.size ∧ Below w.heap.size w ((w.alloc (.cells #[.pointer (some ⟨tb, 0, none⟩)] 63)).alloc (.cells #[.pointer (some ⟨1, 63, none⟩), .pointer (some ⟨w.heap.size, 0, none⟩), .int .u64 150] 79)) ∧ x.isNil = false) := ⟨hx, hfr, htb, B2, h⟩
    clear hx hfr B2 h htb
    go_enter Tryd.func25, Tryd.ntmps25
    go_wp2_with (go_at_call 30; refine (as_P x tb tb w.heap.size _ (H.out.1.mono H.out.2.2.2.1) H.out.2.2.2.2 hvb (H.out.2.1.keep H.out.2.2.2.1) (Nat.le_refl _) (Nat.le_trans (Nat.le_of_lt H.out.2.2.1) H.out.2.2.2.1.size)).mono ?_; rintro ev w3 ⟨rfl, hb3, hgot⟩)
    go_ret
    exact ⟨rfl, (H.out.2.2.2.1.mono (Nat.le_of_lt H.out.2.2.1)).trans hb3, hgot⟩
end Go.Proofs.YtdnjfdkjjenmdaaDoor
