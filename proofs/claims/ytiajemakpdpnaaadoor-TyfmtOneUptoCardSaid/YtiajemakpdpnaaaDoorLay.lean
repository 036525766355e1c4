/- The tables that strconv reads, laid; a row's condition with them; parameters. -/
import Derived.Test.YtiajemakpdpnaaaDoorPwBy
import Derived.Test.YtiajemakpdpnaaaDoorPost
import Derived.Test.YtiajemakpdpnaaaDoorCards
import Derived.Test.YtiajemakpdpnaaaDoorTie
import Derived.SevenTiedAt
import Derived.LaidLaws
import Derived.LaidSub
import Derived.Lay
import Derived.MakeChecks
import Derived.Lib.LaidTab
import Derived.JoinedCond
import Derived.Handed
namespace Go.Proofs.YtiajemakpdpnaaaDoor.lay
open Go.ChangeShapes Go.WideShapes Go.ChangeAt Go.RowKit Go.Proofs.YtiajemakpdpnaaaDoor Pv
def laidList : List (String × DataW Unit) := [("math/bits.deBruijn32tab", Rows.laid_math_bits_deBruijn32tab), ("math/bits.deBruijn64tab", Rows.laid_math_bits_deBruijn64tab), ("internal/strconv.uint64pow10", Rows.laid_internal_strconv_uint64pow10)]
theorem tab_at {W : World} (h : laidMetH Tryd.prog laidList W) : Lib.TabIs Tryd.prog W "internal/strconv.uint64pow10" .u64 Lib.pow10Tab := by
  have h1 : laidMet Tryd.prog laidList W := by rw [← Go.MakeChecks.laidMetH_plain Tryd.prog laidList W (by kernel_rfl)]; exact h
  have h2 := h1.filter fun x => x.1 == "internal/strconv.uint64pow10"
  have h3 : (laidList.filter fun x => x.1 == "internal/strconv.uint64pow10") = [("internal/strconv.uint64pow10", Lib.tabData .u64 Lib.pow10Tab)] := by kernel_rfl
  rw [h3] at h2
  exact Lib.tabIs_of_head (t := 81) (e := 72) (n := 20) (g := 0) (by kernel_rfl) (by kernel_rfl) Tryd.underlying81 Tryd.underlying72 (by kernel_rfl) (by kernel_rfl) h2
theorem okay_tab {W : World} (h : Lib.TabIs Tryd.prog W "internal/strconv.uint64pow10" .u64 Lib.pow10Tab) : Pv.Okay (allS W) W := by
  have hg : Tryd.prog.globalNamed "internal/strconv.uint64pow10" = some 0 := by kernel_rfl
  have hlt : 0 < W.heap.size := World.block_lt_of_cell? W _ (h.cell hg 0 (by rw [Lib.pow10Tab_length]; decide))
  refine ⟨fun _ _ h => h, fun x hx => ?_⟩
  unfold Pv.ghost at hx
  obtain ⟨i, hi, rfl⟩ := List.mem_map.1 hx
  refine ⟨hlt, ?_⟩
  rw [List.mem_range] at hi
  by_cases h20 : i < 20
  · simp only [if_pos h20]
    rw [h.cell hg i (by rw [Lib.pow10Tab_length]; omega), Lib.pow10Tab_at _ h20]
  · simp only [if_neg h20]
    have := World.var?_cell hg h i
    rw [this]
    simp [Lib.pow10Tab]
    omega
section
variable {H : Type} {enc : TypeId × Value → H}
theorem of_cond_and {a : Assume} {C : Checked} {os : Os} {f : FuncId} {fn : Func} {s : OpenSpec} {k : (H : Type) → List (DataW H) → Bool} (hk : s.cond = some k) {F : Stop.Interp} {conds : List PathCond} {apart fresh handsOn again : Bool} {X : World → Array Value → Prop}
    (hX : ∀ (w w' : World) (args : Array Value), w.heap = w'.heap → X w args → X w' args)
    (own : ownKnob C.prog.godebug = none) (started : os.Started) (noInit : C.prog.inits.idxOf? f = none) (hfn : C.prog.funcs[f]? = some fn)
    (witness : ∃ (w : World) (tape : Tape) (i : Input), w.os = os ∧ (w.forCall tape i).Shaped C.prog ∧ i.vars = [] ∧ Input.okWide C.prog (w.forCall tape i) .any w.heap.size f i ∧
      ((s.pre enc C.prog fn conds apart (w.forCall tape i).memory i.args ∧ X (w.forCall tape i).memory i.args) ∧ sizedMet enc C.prog fn s apart (w.forCall tape i).memory i.args) ∧ a.holds C.prog (lone (Frame.enter C.prog f i.args .normal) [] (w.forCall tape i)))
    (contract : ∀ (W : World) (base : Nat) (args : Array Value) (ds gs : List (DataW H)) (before : List MemPlace),
      (∀ (j : Nat) t v, fn.params[j]? = some t → args[j]? = some v → Value.okWide C.prog W .any base t v) →
      DataW.Whole enc C.prog fn.params.toList s.vars apart W args.toList ds gs before →
      conds.all (PathCond.test C.prog ⟨fn.params.toList, ds, s.bare.plain.varTypes C.prog, gs⟩) = true → k H (ds ++ gs) = true → X W args →
      a.holds C.prog (lone (Frame.enter C.prog f args .normal) [] W) →
      Calls C.prog f args W fun e W' => ∃ v, e = .returned v ∧ (s.at F).post enc C.prog fn apart fresh handsOn again W args v W') :
    ReturnsInHanded a C os f .any (fun w args => (s.pre enc C.prog fn conds apart w args ∧ X w args) ∧ sizedMet enc C.prog fn s apart w args) ((s.at F).post enc C.prog fn apart fresh handsOn again) := by
  refine returnsInHanded_of_calls own started noInit witness ?_
  intro w tape i _ _ _ hok hpre hholds
  obtain ⟨_, _, _, fn', hfn', _, _, _, _, hval⟩ := hok
  have e : fn' = fn := Option.some.inj (hfn'.symm.trans hfn)
  subst e
  obtain ⟨ds, gs, before, hw, hc, hkk⟩ := (OpenSpec.pre_some hk conds apart _ _).1 hpre.1.1
  have hw' := DataW.Whole.of_heap (w' := w.forCall tape i) (by rfl) hw
  refine (contract (w.forCall tape i) w.heap.size i.args ds gs before hval hw' hc hkk (hX _ _ _ (by rfl) hpre.1.2) hholds).mono fun e W' ⟨v, he, hp⟩ => ?_
  subst he
  exact ChangeSpec.post_blind hp
end
theorem kinds2 : Kinds Tryd.prog (fun t => t = 3 ∨ t = 9 ∨ t = 22 ∨ t = 23 ∨ t = 25) where
  ok := by
    rintro t (rfl | rfl | rfl | rfl | rfl)
    · rw [Tryd.underlying3]; show Tryd.prog.cellsOf _ = 1; kernel_rfl
    · rw [Tryd.underlying9]; show Tryd.prog.cellsOf _ = 1; kernel_rfl
    · rw [Tryd.underlying22]; exact ⟨by kernel_rfl, by simp, by rw [cellsOf_str]; decide⟩
    · rw [Tryd.underlying23]; exact ⟨by kernel_rfl, by simp, by rw [cellsOf_ty]; decide⟩
    · rw [Tryd.underlying25]; exact ⟨by kernel_rfl, by intro f hf; simp at hf; rcases hf with rfl | rfl | rfl | rfl | rfl <;> simp⟩
theorem part_le {H : Type} {d : DataW H} {l : List (DataW H)} (h : d ∈ l) : Rows.uptoBulk d ≤ Rows.uptoBulkAll l := by
  induction l with
  | nil => cases h
  | cons x r ih =>
    simp only [Rows.uptoBulkAll]
    cases List.mem_cons.1 h with
    | inl e => subst e; omega
    | inr e => have := ih e; omega
theorem met (os : Os) (args : Array Value) : laidMet Tryd.prog laidList ((World.laidAll Tryd.prog os laidList).forCall (fun _ _ => 0) ⟨#[], args, []⟩).memory :=
  laidMet_laidAll args (by kernel_rfl) (by kernel_rfl)
theorem metH (os : Os) (args : Array Value) : laidMetH Tryd.prog laidList ((World.laidAll Tryd.prog os laidList).forCall (fun _ _ => 0) ⟨#[], args, []⟩).memory := by
  rw [Go.MakeChecks.laidMetH_plain Tryd.prog laidList _ (by kernel_rfl)]
  exact met os args
theorem kinds3 : Kinds Tryd.prog (fun t => t = 3 ∨ t = 9 ∨ t = 22 ∨ t = 23 ∨ t = 25 ∨ t = 30 ∨ t = 32) where
  ok := by
    rintro t (rfl | rfl | rfl | rfl | rfl | rfl | rfl)
    · rw [Tryd.underlying3]; show Tryd.prog.cellsOf _ = 1; kernel_rfl
    · rw [Tryd.underlying9]; show Tryd.prog.cellsOf _ = 1; kernel_rfl
    · rw [Tryd.underlying22]; exact ⟨by kernel_rfl, by simp, by rw [cellsOf_str]; decide⟩
    · rw [Tryd.underlying23]; exact ⟨by kernel_rfl, by simp, by rw [cellsOf_ty]; decide⟩
    · rw [Tryd.underlying25]; exact ⟨by kernel_rfl, by intro f hf; simp at hf; rcases hf with rfl | rfl | rfl | rfl | rfl <;> simp⟩
    · rw [Tryd.underlying30]; exact ⟨by kernel_rfl, by simp, by rw [cellsOf_bind]; decide⟩
    · rw [Tryd.underlying32]; exact ⟨by kernel_rfl, by intro f hf; simp at hf; rcases hf with rfl | rfl <;> simp⟩
end Go.Proofs.YtiajemakpdpnaaaDoor.lay
