/- limbecklaw04.awake, by the evaluator: it answers true, and leaves all that was there. -/
import Derived.Test.YtbfmaicoefefaaaPvT
import Derived.Test.YtbfmaicoefefaaaTyVp
set_option linter.unusedSimpArgs false
set_option linter.unusedVariables false
namespace Go.Proofs.Ytbfmaicoefefaaa
open Go.RowKit Pv
set_option maxRecDepth 100000
theorem vars_one1 {N L : List ByteArray} (h : VarsIs N L) (s : ByteArray) (r : List ByteArray) (hN : N = s :: r) (hr : ∀ x ∈ r, x = s) : L.length = 1 := by
  have hm : ∀ x, x ∈ L → x = s := fun x hx => by
    have := (h.2 x).1 hx
    rw [hN] at this
    rcases List.mem_cons.1 this with h | h
    · exact h
    · exact hr x h
  have hs : s ∈ L := (h.2 s).2 (by rw [hN]; exact List.mem_cons_self ..)
  have hp := h.1
  match L, hm, hs, hp with
  | [_], _, _, _ => rfl
  | x :: y :: l, hm, _, hp =>
    have e1 := hm x (List.mem_cons_self ..)
    have e2 := hm y (List.mem_cons_of_mem _ (List.mem_cons_self ..))
    have := (List.pairwise_cons.1 hp).1 y (List.mem_cons_self ..)
    rw [e1, e2] at this
    unfold ltS at this
    rw [less_irr] at this
    cases this
def awBase : FuncId → List D → Option D := fun k ds =>
  if k = 22 then match ds with
    | [d] => match tyOf 400 d with
      | some t => if nodesT t ≤ 1000000 then match namesT t with
          | s :: r => if r.all (fun x => x.toList == s.toList) = true then some (.sln 1) else none
          | [] => none
        else none
      | none => none
    | _ => none
  else tyBase k ds
theorem awBase_ok : PureOk Try.prog awBase := by
  have hcV : Callable Try.prog 22 := callable_of Try.func22 (by kernel_rfl) rfl
  have key : ∀ k ds d, awBase k ds = some d → Callable Try.prog k ∧ Yd Try.prog k ds d := by
    intro k ds d e
    unfold awBase at e
    split at e
    · rename_i hk
      subst hk
      split at e
      · rename_i d0
        split at e
        · rename_i t ht
          split at e
          · rename_i hn
            split at e
            · rename_i s r hN
              split at e
              · rename_i hall
                cases e
                refine ⟨hcV, fun S w args hS r0 => ?_⟩
                obtain ⟨v0, v1, v2, v3, v4, rfl, hT⟩ := one_ty ht r0
                refine (pvars_any t v0 v1 v2 v3 v4 w hT hn).mono ?_
                rintro e' w' ⟨v, L, rfl, hb, hL, hV, _⟩
                have hl : L.length = 1 := vars_one1 hV s r hN fun x hx => by
                  have := List.all_eq_true.1 hall x hx
                  exact eqS_iff.1 this
                refine ⟨v, S, rfl, hb, fun _ _ h => h, fun b o hs => ⟨Nat.lt_of_lt_of_le (hS b o hs) hb.size, fun _ => hs⟩, ?_⟩
                obtain ⟨_, _, h3⟩ := hL
                rcases h3 with ⟨a, cap, rfl, rfl⟩ | ⟨b, off, cap, rfl, _⟩
                · simp at hl
                · rw [hl]
                  exact ⟨_, _, rfl⟩
              · cases e
            · cases e
          · cases e
        · cases e
      · cases e
    · exact ⟨tyBase_ok.can k ds d e, tyBase_ok.ok k ds d e⟩
  exact ⟨fun k ds d e => (key k ds d e).1, fun k ds d e => (key k ds d e).2⟩
theorem t0 : (afun Try.prog ((lay Try.prog awBase 100 9).env Try.prog) 50 12 [] []).map (·.1) = some (.raw (.bool true)) := by kernel_rfl
theorem awake_any (w : World) : Calls Try.prog 12 #[] w fun e w' => e = .returned (.bool true) ∧ Below w.heap.size w w' := by
  obtain ⟨⟨d, h'⟩, e, hd⟩ := Option.map_eq_some_iff.1 t0
  simp only at hd
  subst hd
  refine (afun_yd (env_ok (by kernel_rfl) awBase_ok 100 9) e rfl (fun _ _ => False) w [] ⟨fun _ _ h => h.elim, by unfold ghost; simp⟩ rfl).mono ?_
  rintro e' w' ⟨v, S', rfl, hb, _, _, hv⟩
  simp only [Rd] at hv
  exact ⟨by rw [hv], hb⟩
end Go.Proofs.Ytbfmaicoefefaaa
