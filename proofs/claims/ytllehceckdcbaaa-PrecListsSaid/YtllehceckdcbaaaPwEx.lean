/- A call that knows the first boxes alone leaves the boxes behind them. -/
import Derived.Test.YtllehceckdcbaaaPvW
namespace Go.Proofs.Ytllehceckdcbaaa.Pv
open Go Go.RowKit
mutual
theorem renD_id : ∀ d : D, renD id d = d
  | .any => rfl
  | .raw _ => rfl
  | .sln _ => rfl
  | .agg ds => by simp only [renD, renL_id ds]
  | .tup ds => by simp only [renD, renL_id ds]
  | .sl tag sz ds => by simp only [renD, renL_id ds, Option.map_id_fun, id]
  | .bx _ _ => rfl
  | .ms _ _ _ => rfl
  | .mp _ _ _ _ => rfl
  | .pe d off => by simp only [renD, renD_id d]
  | .fn g a b => by simp only [renD, renL_id a, renL_id b]
  | .ifc t d => by simp only [renD, renD_id d]
theorem renL_id : ∀ ds : List D, renL id ds = ds
  | [] => rfl
  | d :: ds => by simp only [renL, renD_id d, renL_id ds]
end
theorem renC_id (c : Cell) : renC id c = c := by
  cases c <;> simp only [renC, renL_id]
theorem idxOf_id (j : Nat) : ∀ n, idxOf id j n = if j < n then some j else none
  | 0 => rfl
  | n + 1 => by
    simp only [idxOf, id, idxOf_id j n]
    by_cases h : n = j
    · subst h; simp
    · rw [if_neg h]
      by_cases h2 : j < n
      · rw [if_pos h2, if_pos (by omega)]
      · rw [if_neg h2, if_neg (by omega)]
theorem mergeH_id {h0 h0' rest : H} (hl : h0'.length = h0.length) : mergeH id (h0 ++ rest) h0' = h0' ++ rest := by
  apply List.ext_getElem?
  intro i
  unfold mergeH
  rw [List.getElem?_map]
  by_cases hi : i < (h0 ++ rest).length
  · rw [List.getElem?_range hi]
    simp only [Option.map_some, idxOf_id]
    by_cases h2 : i < h0'.length
    · rw [if_pos h2, List.getElem?_append_left h2]
      simp only [renC_id, List.getD_eq_getElem?_getD, List.getElem?_eq_getElem h2, Option.getD_some]
    · rw [if_neg h2]
      simp only [List.getD_eq_getElem?_getD, List.getElem?_eq_getElem hi, Option.getD_some]
      rw [← List.getElem?_eq_getElem hi, List.getElem?_append_right (by omega), List.getElem?_append_right (by omega), hl]
  · rw [List.getElem?_eq_none (by simpa using hi), List.getElem?_eq_none (by rw [List.length_append] at *; omega)]
    rfl
theorem CW.ext {P : Program} {k : FuncId} {ds : List D} {h0 : H} {Q0 : D → H → Prop} (c : CW P k ds h0 Q0) (rest : H) (hid : idbL h0.length ds = true) (hcells : h0.all (cellIdb h0.length) = true)
    (hq : ∀ d h', Q0 d h' → h'.length = h0.length ∧ idb h0.length d = true ∧ h'.all (cellIdb h0.length) = true) : CW P k ds (h0 ++ rest) fun d h' => ∃ h0', Q0 d h0' ∧ h' = h0' ++ rest :=
  (c.frame (h := h0 ++ rest) id (renL_id ds).symm hid hcells (fun _ _ _ _ e => e) (fun i hi => by
    show _ = (h0 ++ rest)[i]?
    rw [List.getElem?_append_left hi]
    cases h0[i]? with
    | none => rfl
    | some c => simp only [Option.map_some, renC_id]) hq).mono fun d h' ⟨d0, h0', q, e1, e2⟩ => ⟨h0', by rw [e1, renD_id]; exact q, by rw [e2]; exact mergeH_id (hq _ _ q).1⟩
end Go.Proofs.Ytllehceckdcbaaa.Pv
