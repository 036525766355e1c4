/- TyfmtLists, of any bindings and any sign of bulk at most 1048576 together: the law answers true: types, and bindings, are shown as the document does. Condition: the three tables of package strconv and math/bits hold what their text lays (tied). -/
import Derived.Test.YtiajemakpdpnaaaDoorPwLs
import Derived.Test.YtiajemakpdpnaaaDoorLay
namespace Go.Proofs.YtiajemakpdpnaaaDoor.lsP
open Go.ChangeShapes Go.WideShapes Go.ChangeAt Go.RowKit Go.Proofs.YtiajemakpdpnaaaDoor Pv lay
def wArgs : Array Value := #[.slice none 0 0, .string ⟨#[]⟩]
set_option maxRecDepth 100000 in
theorem witness (os : Os) (H : Type) (enc : TypeId × Value → H) : ∃ (w : World) (tape : Tape) (i : Input), w.os = os ∧ (w.forCall tape i).Shaped Tryd.prog ∧ i.vars = [] ∧ Input.okWide Tryd.prog (w.forCall tape i) .any w.heap.size 4 i ∧
      (((Rows.OpenSpec.upto Rows.tyfmtListsSpec).pre enc Tryd.prog Tryd.f4 [] false (w.forCall tape i).memory i.args ∧ laidMetH Tryd.prog laidList (w.forCall tape i).memory) ∧ sizedMet enc Tryd.prog Tryd.f4 (Rows.OpenSpec.upto Rows.tyfmtListsSpec) false (w.forCall tape i).memory i.args) ∧ ({} : Assume).holds Tryd.prog (lone (Frame.enter Tryd.prog 4 i.args .normal) [] (w.forCall tape i)) :=
  have hok : Input.okWideB Tryd.prog ((World.laidAll Tryd.prog os laidList).forCall (fun _ _ => 0) ⟨#[], wArgs, []⟩) 4 ⟨#[], wArgs, []⟩ = true := by kernel_rfl
  ⟨World.laidAll Tryd.prog os laidList, fun _ _ => 0, ⟨#[], wArgs, []⟩, World.laidAll_os _ _ _, World.shaped_of_B (by kernel_rfl) (by kernel_rfl), (Input.okWide_of_okWideB (base := 0) hok).1, (Input.okWide_of_okWideB hok).2,
    ⟨⟨(OpenSpec.pre_some (k := Rows.uptoSmall) rfl [] false _ _).2 ⟨_, _, _, DataW.Whole_of_whole (x := ([.nil, .lit (.string [])], [], [])) (fuel := 8) (by kernel_rfl), by kernel_rfl, by kernel_rfl⟩, metH os wArgs⟩, sizedMet_of_sizedB (fuel := 8) (by kernel_rfl)⟩, by
    simp only [Assume.holds]
    exact ⟨by simp, by simp, fun _ => Modest.zero, by simp, by simp⟩⟩
set_option maxRecDepth 100000 in
theorem lifted (os : Os) (started : os.Started) (H : Type) (enc : TypeId × Value → H) (F : Stop.Interp) :
    ReturnsInHanded {} Tryd.checked os 4 .any (fun w args => ((Rows.OpenSpec.upto Rows.tyfmtListsSpec).pre enc Tryd.prog Tryd.f4 [] false w args ∧ laidMetH Tryd.prog laidList w) ∧ sizedMet enc Tryd.prog Tryd.f4 (Rows.OpenSpec.upto Rows.tyfmtListsSpec) false w args)
      (((Rows.OpenSpec.upto Rows.tyfmtListsSpec).at F).post enc Tryd.prog Tryd.f4 false true false false) := by
  refine of_cond_and (C := Tryd.checked) (s := Rows.OpenSpec.upto Rows.tyfmtListsSpec) (k := Rows.uptoSmall) rfl (X := fun w _ => laidMetH Tryd.prog laidList w) (fun _ _ _ hh h => h.of_heap hh) own started (by kernel_rfl) Tryd.func4 (witness os H enc) ?_
  intro W base args ds gs before hval0 hW _ hk hL _
  have hval : ∀ (j : Nat) t v, Tryd.f4.params[j]? = some t → args[j]? = some v → Value.okWide Tryd.prog W .any base t v := hval0
  have hW' := hW
  have hend : ∀ W', Below W.heap.size W W' → Rows.tyfmtListsSpec.post enc Tryd.prog Tryd.f4 false true false false W args (.bool true) W' := fun W' hb =>
    law_post (bt := 4) laid hW' rfl rfl Tryd.underlying4 (by rw [show Tryd.f4.params = _ from Tryd.params4]; intro t ht; simp at ht; rcases ht with rfl | rfl <;> exact ⟨by kernel_rfl, of_decide_eq_true (by kernel_rfl)⟩)
      (by rw [show Tryd.f4.params = _ from Tryd.params4]; intro l hl; match l, hl with | [_, _], _ => rfl) hb
  obtain ⟨p, q, hA0, hV, hpq, _, _⟩ := hW
  have hA : DataW.TrodAll enc Tryd.prog W 0 (fun _ => true) true Tryd.f4.params.toList args.toList ds p := hA0
  rw [Tryd.params4] at hA hval
  obtain ⟨v0, vs0, d0, ds0, p0, q0, hargs, rfl, rfl, h0, r0⟩ := trodAll_cons hA
  obtain ⟨v1, vs1, d1, ds1, p1, q1, rfl, rfl, rfl, h1, r1⟩ := trodAll_cons r0
  obtain ⟨rfl, rfl, rfl⟩ := trodAll_nil r1
  obtain rfl : args = #[v0, v1] := by cases args; simp_all
  obtain ⟨n0, x0, g0, k0, b0⟩ := param_hasb kinds3 (by simp) (hval 0 30 _ rfl rfl) h0
  obtain ⟨n1, x1, g1, k1, b1⟩ := param_hasb kinds3 (by simp) (hval 1 9 _ rfl rfl) h1
  obtain ⟨bs, rfl, _, hbs⟩ := has_binds g0
  obtain ⟨sg, rfl, _⟩ := g1.str Tryd.underlying9
  have hbulk : Rows.uptoBulk d0 ≤ 1048576 ∧ Rows.uptoBulk d1 ≤ 1048576 := by
    have h : Rows.uptoBulkAll _ ≤ 1048576 := of_decide_eq_true hk
    have e0 := part_le (H := H) (d := d0) (l := [d0, d1] ++ gs) (by simp)
    have e1 := part_le (H := H) (d := d1) (l := [d0, d1] ++ gs) (by simp)
    exact ⟨by omega, by omega⟩
  have hz := binds_bulk (Nat.le_trans b0 hbulk.1)
  have hsg : sg.size ≤ 1048576 := by
    have : sg.size + 1 ≤ Rows.uptoBulk d1 := b1
    omega
  refine ((lists_law bs sg (fun p hp => (hbs p hp).2) hz hsg).2 (allS W) W [_, _] (okay_tab (tab_at hL)) ⟨_, _, rfl, k0, ⟨_, _, rfl, k1, rfl⟩⟩).mono ?_
  rintro e W' ⟨v, S', d, rfl, rfl, hb, _, _, hv⟩
  simp only [Pv.Rd] at hv
  subst hv
  exact ⟨_, rfl, hend W' hb⟩
theorem row_holds : Rows.TyfmtListsUptoSaid :=
  OpenClaim.holds_of_cond 4 Tryd.f4 rfl rfl rfl rfl rfl rfl rfl ⟨rfl, rfl, rfl, rfl, rfl⟩ rfl rfl rfl rfl rfl (by kernel_rfl) Tryd.func4 (by kernel_rfl)
    (of_decide_eq_true (by kernel_rfl)) (by unfold Func.isWrapper; first | (rw [if_pos (by decide +kernel)]; kernel_rfl) | (rw [if_neg (by decide +kernel)]; exact ⟨rfl, rfl⟩))
    (fun os started H enc _ F => lifted os started H enc F)
theorem holds : Rows.TyfmtListsUptoCardSaid :=
  Claim7.holds_tied_plain_at .later [] [.data, .data, .data] true Rows.tyfmtListsUptoCard.stood.harness false
    row_holds (fun _ h => by cases h) (by kernel_rfl) (fun _ h => by cases h) tyfmtListsUpto_row_tie rfl ⟨rfl, rfl⟩ (by kernel_rfl) rfl
    (fun f fn hf hfn => by
      obtain rfl : f = 4 := Option.some.inj ((show Tryd.prog.funcNamed "limbeck/limbecklaw05.TyfmtLists" = some 4 by kernel_rfl).symm.trans hf) |>.symm
      obtain rfl : fn = Tryd.f4 := (Option.some.inj (Tryd.func4.symm.trans hfn)).symm
      exact ⟨by kernel_rfl, fun j t ht => by
        have hm : t ∈ Tryd.f4.params.toList := by
          have := (Array.getElem?_eq_some_iff.1 ht)
          obtain ⟨h1, h2⟩ := this
          rw [← h2]; simp
        rw [show Tryd.f4.params = _ from Tryd.params4] at hm
        simp at hm
        rcases hm with rfl | rfl <;> (refine (show Tryd.prog.wantsStandIn _ = false from ?_); kernel_rfl)⟩)
    (by kernel_rfl)
end Go.Proofs.YtiajemakpdpnaaaDoor.lsP
