/- Types as parameters: a datum of the type Ty is a type. -/
import Derived.Test.YtbfmaicoefefaaaPwR
set_option linter.unusedSimpArgs false
set_option linter.unusedVariables false
namespace Go.Proofs.Ytbfmaicoefefaaa
open Go.RowKit Pv
set_option maxRecDepth 100000
set_option maxRecDepth 100000 in
theorem cellsOf_str : Try.prog.cellsOf 9 = 1 := by kernel_rfl
set_option maxRecDepth 100000 in
theorem cellsOf_ty : Try.prog.cellsOf 25 = 5 := by kernel_rfl
set_option maxRecDepth 100000 in
theorem tys_of : ∀ {ds : List D}, (∀ x ∈ ds, ∃ t : Ty5, x = tyD t ∧ okT t) → ∃ ks : List Ty5, ds = tysD ks ∧ okT.okL ks
  | [], _ => ⟨[], rfl, trivial⟩
  | x :: r, h => by
    obtain ⟨ks, h1, h2⟩ := tys_of (ds := r) fun y hy => h y (List.mem_cons_of_mem _ hy)
    obtain ⟨t, rfl, ht⟩ := h x (List.mem_cons_self ..)
    exact ⟨t :: ks, by simp [tysD, h1], ht, h2⟩
set_option maxRecDepth 100000 in
theorem has_ty : ∀ (n : Nat) {d : D}, Has Try.prog n 25 d → ∃ t : Ty5, d = tyD t ∧ okT t := by
  intro n
  induction n using Nat.strongRecOn with
  | _ n ih =>
    intro d h
    obtain ⟨m, xs, rfl, rfl, hl, hx⟩ := h.struct Try.underlying25
    match xs, hl with
    | [x0, x1, x2, x3, x4], _ =>
      obtain ⟨k, rfl, _⟩ := (hx 0 _ x0 rfl rfl).int Try.underlying3
      obtain ⟨a, rfl, _⟩ := (hx 1 _ x1 rfl rfl).int Try.underlying3
      obtain ⟨nm, rfl, hnm⟩ := (hx 2 _ x2 rfl rfl).str Try.underlying9
      obtain ⟨ls, rfl, _, hls⟩ := (hx 3 _ x3 rfl rfl).strs Try.underlying22 Try.underlying9 cellsOf_str
      obtain ⟨m', ds, e, rfl, _, hds⟩ := (hx 4 _ x4 rfl rfl).slice Try.underlying23
      obtain ⟨ks, rfl, hks⟩ := tys_of fun x hx' => ih m' (by omega) (hds x hx')
      rw [cellsOf_ty]
      exact ⟨.mk k a nm ls ks, rfl, hnm, hls, hks⟩
set_option maxRecDepth 100000 in
theorem has_tys {n : Nat} {d : D} (h : Has Try.prog n 23 d) : ∃ ks : List Ty5, d = .sl none 5 (tysD ks) ∧ okT.okL ks ∧ ks.length ≤ maxLen := by
  obtain ⟨m, ds, _, rfl, hl, hds⟩ := h.slice Try.underlying23
  obtain ⟨ks, rfl, hks⟩ := tys_of fun x hx => has_ty m (hds x hx)
  rw [cellsOf_ty]
  exact ⟨ks, rfl, hks, by simpa [tysD_map] using hl⟩
set_option maxRecDepth 100000 in
theorem has_strs {n : Nat} {d : D} (h : Has Try.prog n 22 d) : ∃ ls : List ByteArray, d = .sl none 1 (ls.map strD) ∧ ls.length ≤ maxLen ∧ ∀ s ∈ ls, s.size ≤ maxLen := h.strs Try.underlying22 Try.underlying9 cellsOf_str
set_option maxRecDepth 100000 in
theorem el_strs : ElemIs (TT ()) 22 9 1 16 := by unfold ElemIs; kernel_rfl
set_option maxRecDepth 100000 in
theorem el_tys : ElemIs (TT ()) 23 25 5 80 := by unfold ElemIs; kernel_rfl
end Go.Proofs.Ytbfmaicoefefaaa
