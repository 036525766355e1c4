/- Parameters, with the ranges of their numbers. -/
import Derived.Test.YtbfmaicoefefaaaPwBd
set_option linter.unusedSimpArgs false
set_option linter.unusedVariables false
namespace Go.Proofs.Ytbfmaicoefefaaa
open Go.RowKit Pv
set_option maxRecDepth 100000
mutual
/-- Numbers that are int. -/
def rngT : Ty5 → Prop
  | .mk _ n _ _ ks => (-9223372036854775808 ≤ n ∧ n ≤ 9223372036854775807) ∧ rngL ks
def rngL : List Ty5 → Prop
  | [] => True
  | t :: r => rngT t ∧ rngL r
end
theorem rngL_mem : ∀ {ks : List Ty5}, rngL ks → ∀ t ∈ ks, rngT t
  | x :: r, h, t, ht => by
    rcases List.mem_cons.1 ht with rfl | ht
    · exact h.1
    · exact rngL_mem h.2 t ht
theorem rngL_of : ∀ {ks : List Ty5}, (∀ t ∈ ks, rngT t) → rngL ks
  | [], _ => trivial
  | t :: r, h => ⟨h t (by simp), rngL_of fun u hu => h u (by simp [hu])⟩
theorem rn_i64 {n : Int} (h : (Lit.int .i64 n).wf = true) : -9223372036854775808 ≤ n ∧ n ≤ 9223372036854775807 := bounds_i64 h
theorem rn_u8 {n : Int} (h : (Lit.int .u8 n).wf = true) : 0 ≤ n ∧ n ≤ 255 := by
  simp only [Lit.wf, Bool.and_eq_true, decide_eq_true_eq] at h
  exact h
theorem rn_u16 {n : Int} (h : (Lit.int .u16 n).wf = true) : 0 ≤ n ∧ n ≤ 65535 := by
  simp only [Lit.wf, Bool.and_eq_true, decide_eq_true_eq] at h
  exact h
theorem tysr_of : ∀ {ds : List D}, (∀ x ∈ ds, ∃ t : Ty5, x = tyD t ∧ okT t ∧ rngT t) → ∃ ks : List Ty5, ds = tysD ks ∧ okT.okL ks ∧ rngL ks
  | [], _ => ⟨[], rfl, trivial, trivial⟩
  | x :: r, h => by
    obtain ⟨ks, h1, h2, h3⟩ := tysr_of (ds := r) fun y hy => h y (List.mem_cons_of_mem _ hy)
    obtain ⟨t, rfl, ht, hr⟩ := h x (List.mem_cons_self ..)
    exact ⟨t :: ks, by simp [tysD, h1], ⟨ht, h2⟩, ⟨hr, h3⟩⟩
theorem has_tyr : ∀ (n : Nat) {d : D}, Has Try.prog n 25 d → ∃ t : Ty5, d = tyD t ∧ okT t ∧ rngT t := by
  intro n
  induction n using Nat.strongRecOn with
  | _ n ih =>
    intro d h
    obtain ⟨m, xs, rfl, rfl, hl, hx⟩ := h.struct Try.underlying25
    match xs, hl with
    | [x0, x1, x2, x3, x4], _ =>
      obtain ⟨k, rfl, _⟩ := (hx 0 _ x0 rfl rfl).int Try.underlying3
      obtain ⟨a, rfl, ha⟩ := (hx 1 _ x1 rfl rfl).int Try.underlying3
      obtain ⟨nm, rfl, hnm⟩ := (hx 2 _ x2 rfl rfl).str Try.underlying9
      obtain ⟨ls, rfl, _, hls⟩ := (hx 3 _ x3 rfl rfl).strs Try.underlying22 Try.underlying9 cellsOf_str
      obtain ⟨m', ds, e, rfl, _, hds⟩ := (hx 4 _ x4 rfl rfl).slice Try.underlying23
      obtain ⟨ks, rfl, hks, hkr⟩ := tysr_of fun x hx' => ih m' (by omega) (hds x hx')
      rw [cellsOf_ty]
      exact ⟨.mk k a nm ls ks, rfl, ⟨hnm, hls, hks⟩, rn_i64 ha, hkr⟩
theorem rn_part {H : Type} {d : DataW H} {l : List (DataW H)} (h : d ∈ l) : Rows.uptoBulk d ≤ Rows.uptoBulkAll l := by
  induction l with
  | nil => cases h
  | cons x r ih =>
    simp only [Rows.uptoBulkAll]
    cases List.mem_cons.1 h with
    | inl e => subst e; omega
    | inr e => have := ih e; omega
end Go.Proofs.Ytbfmaicoefefaaa
