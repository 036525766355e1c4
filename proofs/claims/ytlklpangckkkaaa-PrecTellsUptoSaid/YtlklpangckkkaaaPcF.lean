/- limbeckref08: Binds and Fuse. -/
import Derived.Test.YtlklpangckkkaaaPcR
namespace Go.Proofs.Ytlklpangckkkaaa
open Go.RowKit Pv
/-! ### Binds -/
def lessB : List Bd → List Bd → Bool
  | [], [] => true
  | p :: r, q :: s => (decide (p.1 = q.1) && lessT p.2 q.2) && lessB r s
  | [], _ :: _ => false
  | _ :: _, [] => false
theorem lessB_len : ∀ {a b : List Bd}, lessB a b = true → a.length = b.length
  | [], [], _ => rfl
  | p :: r, q :: s, h => by
    simp only [lessB, Bool.and_eq_true] at h
    simp only [List.length_cons, lessB_len h.2]
  | [], _ :: _, h => by cases h
  | _ :: _, [], h => by cases h
theorem lessB_at : ∀ {a b : List Bd}, a.length = b.length → (lessB a b = true ↔ ∀ (j : Nat) (p q : Bd), a[j]? = some p → b[j]? = some q → p.1 = q.1 ∧ lessT p.2 q.2 = true)
  | [], [], _ => ⟨fun _ j p q h => by simp at h, fun _ => rfl⟩
  | t :: r, u :: q, hl => by
    simp only [lessB, Bool.and_eq_true, decide_eq_true_eq]
    rw [lessB_at (a := r) (b := q) (by simpa using hl)]
    constructor
    · rintro ⟨h1, h2⟩ j x y hx hy
      cases j with
      | zero => simp at hx hy; subst hx hy; exact h1
      | succ j => exact h2 j x y (by simpa using hx) (by simpa using hy)
    · intro h
      exact ⟨h 0 t u rfl rfl, fun j x y hx hy => h (j + 1) x y (by simpa using hx) (by simpa using hy)⟩
  | [], _ :: _, h => by simp at h
  | _ :: _, [], h => by simp at h
set_option maxRecDepth 20000 in
set_option maxHeartbeats 4000000 in
theorem rbindsL_run (a b : List Bd) (hl : a.length = b.length) (hks : a.length ≤ 1000000)
    (hc : ∀ t ∈ a, ∀ u ∈ b, CP (TT ()) 15 [tyD t.2, tyD u.2] (· = .raw (.bool (lessT t.2 u.2)))) (Q : D → H → Prop) (hQ : ∀ h', Q (.raw (.bool (lessB a b))) h') :
    wfun TT 20 [.sl none 6 (bnsD a), .sl none 6 (bnsD b)] [] Q := by
  have q2 : lessB a b ≠ true → ∀ h', Q (.raw (.bool false)) h' := fun h => by rw [Bool.eq_false_iff.2 h] at hQ; exact hQ
  have q3 : lessB a b = true → ∀ h', Q (.raw (.bool true)) h' := fun h => by rw [h] at hQ; exact hQ
  have hKl := bns_len a
  have hKl' := bns_len b
  have hKi := bns_idb a
  have hKi' := bns_idb b
  have hKat := fun i => bns_at (m := a) (i := i)
  have hKat' := fun i => bns_at (m := b) (i := i)
  clear hQ
  generalize bnsD a = KS at hKl hKi hKat ⊢
  generalize bnsD b = KS' at hKl' hKi' hKat' ⊢
  cbv
  (repeat' (first | (refine Pv.StatK.go (by kernel_rfl) (by kernel_rfl) ?_; cbv) | (refine Pv.DrawK.go 0 (by decide +kernel) ?_; cbv) | (refine Pv.DrawK.go 1 (by decide +kernel) ?_; cbv) | (refine Pv.DrawK.go 2 (by decide +kernel) ?_; cbv) | (refine Pv.LineK.go 0 (by decide +kernel) (by kernel_rfl) ?_; cbv) | (refine Pv.LineK.go 1 (by decide +kernel) (by kernel_rfl) ?_; cbv) | (refine Pv.LenK.intro ?_; intro _ _ _; cbv) | (refine Pv.LenNK.intro ?_; intro _ _ _; cbv) | (refine Pv.BinK.lssT (by omega) ?_; cbv) | (refine Pv.BinK.lssF (by omega) ?_; cbv) | (refine Pv.BinK.leqT (by omega) ?_; cbv) | (refine Pv.BinK.leqF (by omega) ?_; cbv) | (refine Pv.BinK.gtrT (by omega) ?_; cbv) | (refine Pv.BinK.gtrF (by omega) ?_; cbv) | (refine Pv.BinK.geqT (by omega) ?_; cbv) | (refine Pv.BinK.geqF (by omega) ?_; cbv) | (refine Pv.BinK.eqlT (by omega) ?_; cbv) | (refine Pv.BinK.eqlF (by omega) ?_; cbv) | (refine Pv.BinK.neqT (by omega) ?_; cbv) | (refine Pv.BinK.neqF (by omega) ?_; cbv) | (refine Pv.BinK.add (by omega) ?_; intro _ _; cbv) | (refine Pv.BinK.sub (by omega) ?_; intro _ _; cbv) | (refine Pv.RegK.go ?_; cbv)))
  refine LoopK.put (X := Int) (fun x => [(5, .raw (.int .i64 x))]) (fun _ => []) (fun x => a.length - x.toNat) (fun x => 0 ≤ x ∧ x.toNat ≤ a.length ∧ ∀ (j : Nat) (t u : Bd), j < x.toNat → a[j]? = some t → b[j]? = some u → t.1 = u.1 ∧ lessT t.2 u.2 = true) 0 ⟨by simp, by simp, fun j t u hj => absurd hj (Nat.not_lt_zero _)⟩ rfl rfl ?_
  rintro i N ⟨h0, hi, hj⟩ hN
  simp only at h0 hi hj hN ⊢
  cbv
  (repeat' (first | (refine Pv.StatK.go (by kernel_rfl) (by kernel_rfl) ?_; cbv) | (refine Pv.DrawK.go 0 (by decide +kernel) ?_; cbv) | (refine Pv.DrawK.go 1 (by decide +kernel) ?_; cbv) | (refine Pv.DrawK.go 2 (by decide +kernel) ?_; cbv) | (refine Pv.LineK.go 0 (by decide +kernel) (by kernel_rfl) ?_; cbv) | (refine Pv.LineK.go 1 (by decide +kernel) (by kernel_rfl) ?_; cbv) | (refine Pv.LenK.intro ?_; intro _ _ _; cbv) | (refine Pv.LenNK.intro ?_; intro _ _ _; cbv) | (refine Pv.BinK.lssT (by omega) ?_; cbv) | (refine Pv.BinK.lssF (by omega) ?_; cbv) | (refine Pv.BinK.leqT (by omega) ?_; cbv) | (refine Pv.BinK.leqF (by omega) ?_; cbv) | (refine Pv.BinK.gtrT (by omega) ?_; cbv) | (refine Pv.BinK.gtrF (by omega) ?_; cbv) | (refine Pv.BinK.geqT (by omega) ?_; cbv) | (refine Pv.BinK.geqF (by omega) ?_; cbv) | (refine Pv.BinK.eqlT (by omega) ?_; cbv) | (refine Pv.BinK.eqlF (by omega) ?_; cbv) | (refine Pv.BinK.neqT (by omega) ?_; cbv) | (refine Pv.BinK.neqF (by omega) ?_; cbv) | (refine Pv.BinK.add (by omega) ?_; intro _ _; cbv) | (refine Pv.BinK.sub (by omega) ?_; intro _ _; cbv) | (refine Pv.RegK.go ?_; cbv)))
  refine BinK.lss ?_ ?_ <;> intro hlt <;> cbv <;> (repeat' (first | (refine Pv.StatK.go (by kernel_rfl) (by kernel_rfl) ?_; cbv) | (refine Pv.DrawK.go 0 (by decide +kernel) ?_; cbv) | (refine Pv.DrawK.go 1 (by decide +kernel) ?_; cbv) | (refine Pv.DrawK.go 2 (by decide +kernel) ?_; cbv) | (refine Pv.LineK.go 0 (by decide +kernel) (by kernel_rfl) ?_; cbv) | (refine Pv.LineK.go 1 (by decide +kernel) (by kernel_rfl) ?_; cbv) | (refine Pv.LenK.intro ?_; intro _ _ _; cbv) | (refine Pv.LenNK.intro ?_; intro _ _ _; cbv) | (refine Pv.BinK.lssT (by omega) ?_; cbv) | (refine Pv.BinK.lssF (by omega) ?_; cbv) | (refine Pv.BinK.leqT (by omega) ?_; cbv) | (refine Pv.BinK.leqF (by omega) ?_; cbv) | (refine Pv.BinK.gtrT (by omega) ?_; cbv) | (refine Pv.BinK.gtrF (by omega) ?_; cbv) | (refine Pv.BinK.geqT (by omega) ?_; cbv) | (refine Pv.BinK.geqF (by omega) ?_; cbv) | (refine Pv.BinK.eqlT (by omega) ?_; cbv) | (refine Pv.BinK.eqlF (by omega) ?_; cbv) | (refine Pv.BinK.neqT (by omega) ?_; cbv) | (refine Pv.BinK.neqF (by omega) ?_; cbv) | (refine Pv.BinK.add (by omega) ?_; intro _ _; cbv) | (refine Pv.BinK.sub (by omega) ?_; intro _ _; cbv) | (refine Pv.RegK.go ?_; cbv)))
  · obtain ⟨t, ht, hK⟩ := hKat i.toNat (by omega)
    obtain ⟨u, hu, hK'⟩ := hKat' i.toNat (by omega)
    have hct := hc t (List.mem_of_getElem? ht) u (List.mem_of_getElem? hu)
    have hpt := ty_pure t.2
    have hpu := ty_pure u.2
    have hno : ¬ (t.1 = u.1 ∧ lessT t.2 u.2 = true) → ∀ h', Q (.raw (.bool false)) h' := fun e => q2 fun h => e ((lessB_at hl).1 h i.toNat t u ht hu)
    have hnext : t.1 = u.1 → lessT t.2 u.2 = true → ∀ r : Int, r = i + 1 → ∀ (j : Nat) (t u : Bd), j < r.toNat → a[j]? = some t → b[j]? = some u → t.1 = u.1 ∧ lessT t.2 u.2 = true := fun e1 e2 r hr j x y hjr hx hy => by
      by_cases hji : j = i.toNat
      · rw [hji, ht] at hx
        rw [hji, hu] at hy
        cases hx
        cases hy
        exact ⟨e1, e2⟩
      · exact hj j x y (by omega) hx hy
    generalize lessT t.2 u.2 = bb at hct hno hnext
    obtain ⟨k0, n0, m0, L0, K0, f0, f0', i0, j0⟩ := bn_node t
    obtain ⟨k1, n1, m1, L1, K1, f1, f1', i1, j1⟩ := bn_node u
    clear i0 j0 i1 j1
    rw [f0'] at hct hpt
    rw [f0] at hK
    rw [f1'] at hct hpu
    rw [f1] at hK'
    clear f0 f1 f0' f1' hc q2 q3 hj ht hu
    generalize t.1 = s1 at hK hno hnext
    generalize u.1 = s2 at hK' hno hnext
    refine IdxK.intro h0 hK ?_
    cbv
    (repeat' (first | (refine Pv.StatK.go (by kernel_rfl) (by kernel_rfl) ?_; cbv) | (refine Pv.DrawK.go 0 (by decide +kernel) ?_; cbv) | (refine Pv.DrawK.go 1 (by decide +kernel) ?_; cbv) | (refine Pv.DrawK.go 2 (by decide +kernel) ?_; cbv) | (refine Pv.LineK.go 0 (by decide +kernel) (by kernel_rfl) ?_; cbv) | (refine Pv.LineK.go 1 (by decide +kernel) (by kernel_rfl) ?_; cbv) | (refine Pv.LenK.intro ?_; intro _ _ _; cbv) | (refine Pv.LenNK.intro ?_; intro _ _ _; cbv) | (refine Pv.BinK.lssT (by omega) ?_; cbv) | (refine Pv.BinK.lssF (by omega) ?_; cbv) | (refine Pv.BinK.leqT (by omega) ?_; cbv) | (refine Pv.BinK.leqF (by omega) ?_; cbv) | (refine Pv.BinK.gtrT (by omega) ?_; cbv) | (refine Pv.BinK.gtrF (by omega) ?_; cbv) | (refine Pv.BinK.geqT (by omega) ?_; cbv) | (refine Pv.BinK.geqF (by omega) ?_; cbv) | (refine Pv.BinK.eqlT (by omega) ?_; cbv) | (refine Pv.BinK.eqlF (by omega) ?_; cbv) | (refine Pv.BinK.neqT (by omega) ?_; cbv) | (refine Pv.BinK.neqF (by omega) ?_; cbv) | (refine Pv.BinK.add (by omega) ?_; intro _ _; cbv) | (refine Pv.BinK.sub (by omega) ?_; intro _ _; cbv) | (refine Pv.RegK.go ?_; cbv)))
    refine IdxK.intro h0 hK' ?_
    cbv
    (repeat' (first | (refine Pv.StatK.go (by kernel_rfl) (by kernel_rfl) ?_; cbv) | (refine Pv.DrawK.go 0 (by decide +kernel) ?_; cbv) | (refine Pv.DrawK.go 1 (by decide +kernel) ?_; cbv) | (refine Pv.DrawK.go 2 (by decide +kernel) ?_; cbv) | (refine Pv.LineK.go 0 (by decide +kernel) (by kernel_rfl) ?_; cbv) | (refine Pv.LineK.go 1 (by decide +kernel) (by kernel_rfl) ?_; cbv) | (refine Pv.LenK.intro ?_; intro _ _ _; cbv) | (refine Pv.LenNK.intro ?_; intro _ _ _; cbv) | (refine Pv.BinK.lssT (by omega) ?_; cbv) | (refine Pv.BinK.lssF (by omega) ?_; cbv) | (refine Pv.BinK.leqT (by omega) ?_; cbv) | (refine Pv.BinK.leqF (by omega) ?_; cbv) | (refine Pv.BinK.gtrT (by omega) ?_; cbv) | (refine Pv.BinK.gtrF (by omega) ?_; cbv) | (refine Pv.BinK.geqT (by omega) ?_; cbv) | (refine Pv.BinK.geqF (by omega) ?_; cbv) | (refine Pv.BinK.eqlT (by omega) ?_; cbv) | (refine Pv.BinK.eqlF (by omega) ?_; cbv) | (refine Pv.BinK.neqT (by omega) ?_; cbv) | (refine Pv.BinK.neqF (by omega) ?_; cbv) | (refine Pv.BinK.add (by omega) ?_; intro _ _; cbv) | (refine Pv.BinK.sub (by omega) ?_; intro _ _; cbv) | (refine Pv.RegK.go ?_; cbv)))
    refine BinK.sneq ?_ ?_ <;> intro hs
    · cbv
      (repeat' (first | (refine Pv.StatK.go (by kernel_rfl) (by kernel_rfl) ?_; cbv) | (refine Pv.DrawK.go 0 (by decide +kernel) ?_; cbv) | (refine Pv.DrawK.go 1 (by decide +kernel) ?_; cbv) | (refine Pv.DrawK.go 2 (by decide +kernel) ?_; cbv) | (refine Pv.LineK.go 0 (by decide +kernel) (by kernel_rfl) ?_; cbv) | (refine Pv.LineK.go 1 (by decide +kernel) (by kernel_rfl) ?_; cbv) | (refine Pv.LenK.intro ?_; intro _ _ _; cbv) | (refine Pv.LenNK.intro ?_; intro _ _ _; cbv) | (refine Pv.BinK.lssT (by omega) ?_; cbv) | (refine Pv.BinK.lssF (by omega) ?_; cbv) | (refine Pv.BinK.leqT (by omega) ?_; cbv) | (refine Pv.BinK.leqF (by omega) ?_; cbv) | (refine Pv.BinK.gtrT (by omega) ?_; cbv) | (refine Pv.BinK.gtrF (by omega) ?_; cbv) | (refine Pv.BinK.geqT (by omega) ?_; cbv) | (refine Pv.BinK.geqF (by omega) ?_; cbv) | (refine Pv.BinK.eqlT (by omega) ?_; cbv) | (refine Pv.BinK.eqlF (by omega) ?_; cbv) | (refine Pv.BinK.neqT (by omega) ?_; cbv) | (refine Pv.BinK.neqF (by omega) ?_; cbv) | (refine Pv.BinK.add (by omega) ?_; intro _ _; cbv) | (refine Pv.BinK.sub (by omega) ?_; intro _ _; cbv) | (refine Pv.RegK.go ?_; cbv)))
      exact ⟨hno (fun h => hs h.1) _⟩
    cbv
    (repeat' (first | (refine Pv.StatK.go (by kernel_rfl) (by kernel_rfl) ?_; cbv) | (refine Pv.DrawK.go 0 (by decide +kernel) ?_; cbv) | (refine Pv.DrawK.go 1 (by decide +kernel) ?_; cbv) | (refine Pv.DrawK.go 2 (by decide +kernel) ?_; cbv) | (refine Pv.LineK.go 0 (by decide +kernel) (by kernel_rfl) ?_; cbv) | (refine Pv.LineK.go 1 (by decide +kernel) (by kernel_rfl) ?_; cbv) | (refine Pv.LenK.intro ?_; intro _ _ _; cbv) | (refine Pv.LenNK.intro ?_; intro _ _ _; cbv) | (refine Pv.BinK.lssT (by omega) ?_; cbv) | (refine Pv.BinK.lssF (by omega) ?_; cbv) | (refine Pv.BinK.leqT (by omega) ?_; cbv) | (refine Pv.BinK.leqF (by omega) ?_; cbv) | (refine Pv.BinK.gtrT (by omega) ?_; cbv) | (refine Pv.BinK.gtrF (by omega) ?_; cbv) | (refine Pv.BinK.geqT (by omega) ?_; cbv) | (refine Pv.BinK.geqF (by omega) ?_; cbv) | (refine Pv.BinK.eqlT (by omega) ?_; cbv) | (refine Pv.BinK.eqlF (by omega) ?_; cbv) | (refine Pv.BinK.neqT (by omega) ?_; cbv) | (refine Pv.BinK.neqF (by omega) ?_; cbv) | (refine Pv.BinK.add (by omega) ?_; intro _ _; cbv) | (refine Pv.BinK.sub (by omega) ?_; intro _ _; cbv) | (refine Pv.RegK.go ?_; cbv)))
    refine IdxK.intro h0 hK ?_
    cbv
    (repeat' (first | (refine Pv.StatK.go (by kernel_rfl) (by kernel_rfl) ?_; cbv) | (refine Pv.DrawK.go 0 (by decide +kernel) ?_; cbv) | (refine Pv.DrawK.go 1 (by decide +kernel) ?_; cbv) | (refine Pv.DrawK.go 2 (by decide +kernel) ?_; cbv) | (refine Pv.LineK.go 0 (by decide +kernel) (by kernel_rfl) ?_; cbv) | (refine Pv.LineK.go 1 (by decide +kernel) (by kernel_rfl) ?_; cbv) | (refine Pv.LenK.intro ?_; intro _ _ _; cbv) | (refine Pv.LenNK.intro ?_; intro _ _ _; cbv) | (refine Pv.BinK.lssT (by omega) ?_; cbv) | (refine Pv.BinK.lssF (by omega) ?_; cbv) | (refine Pv.BinK.leqT (by omega) ?_; cbv) | (refine Pv.BinK.leqF (by omega) ?_; cbv) | (refine Pv.BinK.gtrT (by omega) ?_; cbv) | (refine Pv.BinK.gtrF (by omega) ?_; cbv) | (refine Pv.BinK.geqT (by omega) ?_; cbv) | (refine Pv.BinK.geqF (by omega) ?_; cbv) | (refine Pv.BinK.eqlT (by omega) ?_; cbv) | (refine Pv.BinK.eqlF (by omega) ?_; cbv) | (refine Pv.BinK.neqT (by omega) ?_; cbv) | (refine Pv.BinK.neqF (by omega) ?_; cbv) | (refine Pv.BinK.add (by omega) ?_; intro _ _; cbv) | (refine Pv.BinK.sub (by omega) ?_; intro _ _; cbv) | (refine Pv.RegK.go ?_; cbv)))
    refine IdxK.intro h0 hK' ?_
    cbv
    (repeat' (first | (refine Pv.StatK.go (by kernel_rfl) (by kernel_rfl) ?_; cbv) | (refine Pv.DrawK.go 0 (by decide +kernel) ?_; cbv) | (refine Pv.DrawK.go 1 (by decide +kernel) ?_; cbv) | (refine Pv.DrawK.go 2 (by decide +kernel) ?_; cbv) | (refine Pv.LineK.go 0 (by decide +kernel) (by kernel_rfl) ?_; cbv) | (refine Pv.LineK.go 1 (by decide +kernel) (by kernel_rfl) ?_; cbv) | (refine Pv.LenK.intro ?_; intro _ _ _; cbv) | (refine Pv.LenNK.intro ?_; intro _ _ _; cbv) | (refine Pv.BinK.lssT (by omega) ?_; cbv) | (refine Pv.BinK.lssF (by omega) ?_; cbv) | (refine Pv.BinK.leqT (by omega) ?_; cbv) | (refine Pv.BinK.leqF (by omega) ?_; cbv) | (refine Pv.BinK.gtrT (by omega) ?_; cbv) | (refine Pv.BinK.gtrF (by omega) ?_; cbv) | (refine Pv.BinK.geqT (by omega) ?_; cbv) | (refine Pv.BinK.geqF (by omega) ?_; cbv) | (refine Pv.BinK.eqlT (by omega) ?_; cbv) | (refine Pv.BinK.eqlF (by omega) ?_; cbv) | (refine Pv.BinK.neqT (by omega) ?_; cbv) | (refine Pv.BinK.neqF (by omega) ?_; cbv) | (refine Pv.BinK.add (by omega) ?_; intro _ _; cbv) | (refine Pv.BinK.sub (by omega) ?_; intro _ _; cbv) | (refine Pv.RegK.go ?_; cbv)))
    first | refine CallK.one hct (cons_pure hpt (cons_pure hpu rfl)) rfl ?_ | refine PCallK.one hct (cons_pure hpt (cons_pure hpu rfl)) rfl ?_
    rcases bb with _ | _
    · cbv
      (repeat' (first | (refine Pv.StatK.go (by kernel_rfl) (by kernel_rfl) ?_; cbv) | (refine Pv.DrawK.go 0 (by decide +kernel) ?_; cbv) | (refine Pv.DrawK.go 1 (by decide +kernel) ?_; cbv) | (refine Pv.DrawK.go 2 (by decide +kernel) ?_; cbv) | (refine Pv.LineK.go 0 (by decide +kernel) (by kernel_rfl) ?_; cbv) | (refine Pv.LineK.go 1 (by decide +kernel) (by kernel_rfl) ?_; cbv) | (refine Pv.LenK.intro ?_; intro _ _ _; cbv) | (refine Pv.LenNK.intro ?_; intro _ _ _; cbv) | (refine Pv.BinK.lssT (by omega) ?_; cbv) | (refine Pv.BinK.lssF (by omega) ?_; cbv) | (refine Pv.BinK.leqT (by omega) ?_; cbv) | (refine Pv.BinK.leqF (by omega) ?_; cbv) | (refine Pv.BinK.gtrT (by omega) ?_; cbv) | (refine Pv.BinK.gtrF (by omega) ?_; cbv) | (refine Pv.BinK.geqT (by omega) ?_; cbv) | (refine Pv.BinK.geqF (by omega) ?_; cbv) | (refine Pv.BinK.eqlT (by omega) ?_; cbv) | (refine Pv.BinK.eqlF (by omega) ?_; cbv) | (refine Pv.BinK.neqT (by omega) ?_; cbv) | (refine Pv.BinK.neqF (by omega) ?_; cbv) | (refine Pv.BinK.add (by omega) ?_; intro _ _; cbv) | (refine Pv.BinK.sub (by omega) ?_; intro _ _; cbv) | (refine Pv.RegK.go ?_; cbv)))
      exact ⟨hno (fun h => by cases h.2) _⟩
    have hnext := hnext hs rfl
    cbv
    (repeat' (first | (refine Pv.StatK.go (by kernel_rfl) (by kernel_rfl) ?_; cbv) | (refine Pv.DrawK.go 0 (by decide +kernel) ?_; cbv) | (refine Pv.DrawK.go 1 (by decide +kernel) ?_; cbv) | (refine Pv.DrawK.go 2 (by decide +kernel) ?_; cbv) | (refine Pv.LineK.go 0 (by decide +kernel) (by kernel_rfl) ?_; cbv) | (refine Pv.LineK.go 1 (by decide +kernel) (by kernel_rfl) ?_; cbv) | (refine Pv.LenK.intro ?_; intro _ _ _; cbv) | (refine Pv.LenNK.intro ?_; intro _ _ _; cbv) | (refine Pv.BinK.lssT (by omega) ?_; cbv) | (refine Pv.BinK.lssF (by omega) ?_; cbv) | (refine Pv.BinK.leqT (by omega) ?_; cbv) | (refine Pv.BinK.leqF (by omega) ?_; cbv) | (refine Pv.BinK.gtrT (by omega) ?_; cbv) | (refine Pv.BinK.gtrF (by omega) ?_; cbv) | (refine Pv.BinK.geqT (by omega) ?_; cbv) | (refine Pv.BinK.geqF (by omega) ?_; cbv) | (refine Pv.BinK.eqlT (by omega) ?_; cbv) | (refine Pv.BinK.eqlF (by omega) ?_; cbv) | (refine Pv.BinK.neqT (by omega) ?_; cbv) | (refine Pv.BinK.neqF (by omega) ?_; cbv) | (refine Pv.BinK.add (by omega) ?_; intro _ _; cbv) | (refine Pv.BinK.sub (by omega) ?_; intro _ _; cbv) | (refine Pv.RegK.go ?_; cbv)))
    rename_i r hr
    have hnext := hnext r hr
    refine RoundK.next r ⟨by omega, by omega, hnext⟩ (by omega) rfl rfl
  · have hLt : lessB a b = true := (lessB_at hl).2 fun j t u ht hu => hj j t u (by have := (List.getElem?_eq_some_iff.1 ht).1; omega) ht hu
    exact ⟨q3 hLt _⟩
set_option maxRecDepth 20000 in
theorem rbindsL_off (a b : List Bd) (hl : a.length ≠ b.length) (Q : D → H → Prop) (hQ : ∀ h', Q (.raw (.bool false)) h') : wfun TT 20 [.sl none 6 (bnsD a), .sl none 6 (bnsD b)] [] Q := by
  have hKl := bns_len a
  have hKl' := bns_len b
  generalize bnsD a = KS at hKl ⊢
  generalize bnsD b = KS' at hKl' ⊢
  cbv
  (repeat' (first | (refine Pv.StatK.go (by kernel_rfl) (by kernel_rfl) ?_; cbv) | (refine Pv.DrawK.go 0 (by decide +kernel) ?_; cbv) | (refine Pv.DrawK.go 1 (by decide +kernel) ?_; cbv) | (refine Pv.DrawK.go 2 (by decide +kernel) ?_; cbv) | (refine Pv.LineK.go 0 (by decide +kernel) (by kernel_rfl) ?_; cbv) | (refine Pv.LineK.go 1 (by decide +kernel) (by kernel_rfl) ?_; cbv) | (refine Pv.LenK.intro ?_; intro _ _ _; cbv) | (refine Pv.LenNK.intro ?_; intro _ _ _; cbv) | (refine Pv.BinK.lssT (by omega) ?_; cbv) | (refine Pv.BinK.lssF (by omega) ?_; cbv) | (refine Pv.BinK.leqT (by omega) ?_; cbv) | (refine Pv.BinK.leqF (by omega) ?_; cbv) | (refine Pv.BinK.gtrT (by omega) ?_; cbv) | (refine Pv.BinK.gtrF (by omega) ?_; cbv) | (refine Pv.BinK.geqT (by omega) ?_; cbv) | (refine Pv.BinK.geqF (by omega) ?_; cbv) | (refine Pv.BinK.eqlT (by omega) ?_; cbv) | (refine Pv.BinK.eqlF (by omega) ?_; cbv) | (refine Pv.BinK.neqT (by omega) ?_; cbv) | (refine Pv.BinK.neqF (by omega) ?_; cbv) | (refine Pv.BinK.add (by omega) ?_; intro _ _; cbv) | (refine Pv.BinK.sub (by omega) ?_; intro _ _; cbv) | (refine Pv.RegK.go ?_; cbv)))
  exact ⟨hQ _⟩
theorem rbindsL_cp (a b : List Bd) (ha : okB a) (hb : okB b) (hk : a.length ≤ 1000000) (hn : ∀ t ∈ a, nodesT t.2 ≤ 1000000) : CP (TT ()) 20 [.sl none 6 (bnsD a), .sl none 6 (bnsD b)] (· = .raw (.bool (lessB a b))) := by
  by_cases hl : a.length = b.length
  · exact c4_run (rbindsL_run a b hl hk fun t ht u hu => rless_cp t.2 (hn t ht) (ha t ht).2 u.2 (hb u hu).2)
  · have e : lessB a b = false := by
      rw [Bool.eq_false_iff]
      exact fun h => hl (lessB_len h)
    rw [e]
    exact c4_run (rbindsL_off a b hl)
/-! ### Fuse -/
def optT (o : Option Ty5) : Ty5 := o.getD ty0
def optP (o : Option Ty5) : D := .tup [tyD (optT o), .raw (.bool o.isSome)]
theorem optP_pure (o : Option Ty5) : pureD (optP o) = some (optP o) := by simp [optP, pureD, pureL, ty_pure]
theorem fuseL_of : ∀ {a b vs : List Ty5}, a.length = b.length → vs.length = a.length → (∀ (j : Nat) (t u : Ty5), a[j]? = some t → b[j]? = some u → fuseT t u = vs[j]?) → fuseL a b = some vs
  | [], [], [], _, _, _ => rfl
  | t :: r, u :: q, v :: vs, h1, h2, h => by
    have e := h 0 t u rfl rfl
    simp only [List.getElem?_cons_zero] at e
    simp only [fuseL, e]
    rw [fuseL_of (a := r) (b := q) (vs := vs) (by simpa using h1) (by simpa using h2) fun j x y hx hy => by
      have := h (j + 1) x y (by simpa using hx) (by simpa using hy)
      simpa using this]
    rfl
  | [], _ :: _, _, h, _, _ => by simp at h
  | _ :: _, [], _, h, _, _ => by simp at h
  | [], [], _ :: _, _, h, _ => by simp at h
  | _ :: _, _ :: _, [], _, h, _ => by simp at h
theorem fuseL_not : ∀ {a b : List Ty5} {j : Nat} {t u : Ty5}, a[j]? = some t → b[j]? = some u → fuseT t u = none → fuseL a b = none
  | [], _, _, _, _, h, _, _ => by simp at h
  | _ :: _, [], _, _, _, _, h, _ => by simp at h
  | x :: r, y :: q, 0, t, u, h1, h2, h => by
    simp at h1 h2
    subst h1 h2
    simp only [fuseL, h]
  | x :: r, y :: q, j + 1, t, u, h1, h2, h => by
    simp only [fuseL]
    rw [fuseL_not (a := r) (b := q) (j := j) (by simpa using h1) (by simpa using h2) h]
    cases fuseT x y <;> rfl
set_option maxRecDepth 20000 in
set_option maxHeartbeats 4000000 in
theorem rfuse_run (k n : Int) (nm : ByteArray) (ls : List ByteArray) (ks : List Ty5) (k' n' : Int) (nm' : ByteArray) (ls' : List ByteArray) (ks' : List Ty5) (ha : okT (.mk k n nm ls ks)) (hb : okT (.mk k' n' nm' ls' ks')) (hks : ks.length ≤ 1000000)
    (hc : ∀ t ∈ ks, ∀ u ∈ ks', CP (TT ()) 13 [tyD t, tyD u] (· = optP (fuseT t u))) (Q : D → H → Prop) (hQ : ∀ d h', Wk d (optP (fuseT (.mk k n nm ls ks) (.mk k' n' nm' ls' ks'))) → Q d h') :
    wfun TT 13 [tyD (.mk k n nm ls ks), tyD (.mk k' n' nm' ls' ks')] [] Q := by
  have c1 := rdyn_cp _ hb
  have c0 := rdyn_cp _ ha
  have c2 := ralike_cp _ _ ha hb
  have pa := ty_pure (.mk k n nm ls ks)
  have pb := ty_pure (.mk k' n' nm' ls' ks')
  have q1 : isDyn (.mk k' n' nm' ls' ks') = true → ∀ h', Q (.tup [tyD (.mk k n nm ls ks), .raw (.bool true)]) h' := fun h h' => hQ _ h' (by
    rw [fuse_right (isDyn_iff.1 h)]
    exact .refl _)
  have q0 : isDyn (.mk k' n' nm' ls' ks') = false → isDyn (.mk k n nm ls ks) = true → ∀ h', Q (.tup [tyD (.mk k' n' nm' ls' ks'), .raw (.bool true)]) h' := fun h g h' => hQ _ h' (by
    rw [fuse_left (isDyn_no.1 h) (isDyn_iff.1 g)]
    exact .refl _)
  have wz : Wk (.tup [.agg [.raw (.int .i64 0), .raw (.int .i64 0), .raw (.string ⟨#[]⟩), .raw (.slice none 0 0), .raw (.slice none 0 0)], .raw (.bool false)]) (optP none) := .tup (.cons (.agg (.cons (.refl _) (.cons (.refl _) (.cons (.refl _) (.cons (nil_any 1) (.cons (nil_any 5) .nil)))))) (.refl _))
  have q2 : isDyn (.mk k' n' nm' ls' ks') = false → isDyn (.mk k n nm ls ks) = false → alikeT (.mk k n nm ls ks) (.mk k' n' nm' ls' ks') = false → ∀ h', Q (.tup [.agg [.raw (.int .i64 0), .raw (.int .i64 0), .raw (.string ⟨#[]⟩), .raw (.slice none 0 0), .raw (.slice none 0 0)], .raw (.bool false)]) h' := fun h g e h' => hQ _ h' (by
    rw [fuse_none (isDyn_no.1 g) (isDyn_no.1 h) e]
    exact wz)
  have q4 : isDyn (.mk k' n' nm' ls' ks') = false → isDyn (.mk k n nm ls ks) = false → alikeT (.mk k n nm ls ks) (.mk k' n' nm' ls' ks') = true → (fuseL ks ks' = none → ∀ h', Q (.tup [.agg [.raw (.int .i64 0), .raw (.int .i64 0), .raw (.string ⟨#[]⟩), .raw (.slice none 0 0), .raw (.slice none 0 0)], .raw (.bool false)]) h') ∧
      ∀ vs, fuseL ks ks' = some vs → ∀ tag h', Q (.tup [.agg [.raw (.int .i64 k), .raw (.int .i64 n), .raw (.string nm), .sl none 1 (ls.map strD), .sl tag 5 (tysD vs)], .raw (.bool true)]) h' := fun h g e => by
    obtain ⟨rfl, rfl, rfl, rfl, hl⟩ := alike_iff.1 e
    have ef := fuse_both (isDyn_no.1 g) (isDyn_no.1 h) hl
    refine ⟨fun hf h' => hQ _ h' ?_, fun vs hf tag h' => hQ _ h' ?_⟩
    · rw [ef, hf]
      exact wz
    · rw [ef, hf]
      exact .tup (.cons (.agg (.cons (.refl _) (.cons (.refl _) (.cons (.refl _) (.cons (.refl _) (.cons (untag_any _ _ _) .nil)))))) (.refl _))
  have hlen : alikeT (.mk k n nm ls ks) (.mk k' n' nm' ls' ks') = true → ks.length = ks'.length := fun h => (alike_iff.1 h).2.2.2.2
  generalize isDyn (.mk k' n' nm' ls' ks') = b1 at c1 q1 q0 q2 q4
  generalize isDyn (.mk k n nm ls ks) = b0 at c0 q0 q2 q4
  generalize alikeT (.mk k n nm ls ks) (.mk k' n' nm' ls' ks') = b2 at c2 q2 q4 hlen
  simp only [tyD] at c1 c0 c2 pa pb q1 q0 ⊢
  have hKl := tys_len ks
  have hKl' := tys_len ks'
  have hKi := tys_idb ks
  have hKi' := tys_idb ks'
  have hKat := fun i => tys_at (ks := ks) (i := i)
  have hKat' := fun i => tys_at (ks := ks') (i := i)
  have hLi := strs_idb ls
  have hLi' := strs_idb ls'
  clear hQ
  generalize ls.map strD = LS at c0 c2 pa hLi q1 q4 ⊢
  generalize ls'.map strD = LS' at c1 c2 pb hLi' q0 ⊢
  generalize tysD ks = KS at c0 c2 pa hKl hKi hKat q1 ⊢
  generalize tysD ks' = KS' at c1 c2 pb hKl' hKi' hKat' q0 ⊢
  cbv
  (repeat' (first | (refine Pv.StatK.go (by kernel_rfl) (by kernel_rfl) ?_; cbv) | (refine Pv.DrawK.go 0 (by decide +kernel) ?_; cbv) | (refine Pv.DrawK.go 1 (by decide +kernel) ?_; cbv) | (refine Pv.DrawK.go 2 (by decide +kernel) ?_; cbv) | (refine Pv.LineK.go 0 (by decide +kernel) (by kernel_rfl) ?_; cbv) | (refine Pv.LineK.go 1 (by decide +kernel) (by kernel_rfl) ?_; cbv) | (refine Pv.LenK.intro ?_; intro _ _ _; cbv) | (refine Pv.LenNK.intro ?_; intro _ _ _; cbv) | (refine Pv.BinK.lssT (by omega) ?_; cbv) | (refine Pv.BinK.lssF (by omega) ?_; cbv) | (refine Pv.BinK.leqT (by omega) ?_; cbv) | (refine Pv.BinK.leqF (by omega) ?_; cbv) | (refine Pv.BinK.gtrT (by omega) ?_; cbv) | (refine Pv.BinK.gtrF (by omega) ?_; cbv) | (refine Pv.BinK.geqT (by omega) ?_; cbv) | (refine Pv.BinK.geqF (by omega) ?_; cbv) | (refine Pv.BinK.eqlT (by omega) ?_; cbv) | (refine Pv.BinK.eqlF (by omega) ?_; cbv) | (refine Pv.BinK.neqT (by omega) ?_; cbv) | (refine Pv.BinK.neqF (by omega) ?_; cbv) | (refine Pv.BinK.add (by omega) ?_; intro _ _; cbv) | (refine Pv.BinK.sub (by omega) ?_; intro _ _; cbv) | (refine Pv.RegK.go ?_; cbv)))
  first | refine CallK.one c1 (cons_pure pb rfl) rfl ?_ | refine PCallK.one c1 (cons_pure pb rfl) rfl ?_
  rcases b1 with _ | _
  case' true =>
    cbv
    (repeat' (first | (refine Pv.StatK.go (by kernel_rfl) (by kernel_rfl) ?_; cbv) | (refine Pv.DrawK.go 0 (by decide +kernel) ?_; cbv) | (refine Pv.DrawK.go 1 (by decide +kernel) ?_; cbv) | (refine Pv.DrawK.go 2 (by decide +kernel) ?_; cbv) | (refine Pv.LineK.go 0 (by decide +kernel) (by kernel_rfl) ?_; cbv) | (refine Pv.LineK.go 1 (by decide +kernel) (by kernel_rfl) ?_; cbv) | (refine Pv.LenK.intro ?_; intro _ _ _; cbv) | (refine Pv.LenNK.intro ?_; intro _ _ _; cbv) | (refine Pv.BinK.lssT (by omega) ?_; cbv) | (refine Pv.BinK.lssF (by omega) ?_; cbv) | (refine Pv.BinK.leqT (by omega) ?_; cbv) | (refine Pv.BinK.leqF (by omega) ?_; cbv) | (refine Pv.BinK.gtrT (by omega) ?_; cbv) | (refine Pv.BinK.gtrF (by omega) ?_; cbv) | (refine Pv.BinK.geqT (by omega) ?_; cbv) | (refine Pv.BinK.geqF (by omega) ?_; cbv) | (refine Pv.BinK.eqlT (by omega) ?_; cbv) | (refine Pv.BinK.eqlF (by omega) ?_; cbv) | (refine Pv.BinK.neqT (by omega) ?_; cbv) | (refine Pv.BinK.neqF (by omega) ?_; cbv) | (refine Pv.BinK.add (by omega) ?_; intro _ _; cbv) | (refine Pv.BinK.sub (by omega) ?_; intro _ _; cbv) | (refine Pv.RegK.go ?_; cbv)))
    exact ⟨q1 rfl _⟩
  cbv
  (repeat' (first | (refine Pv.StatK.go (by kernel_rfl) (by kernel_rfl) ?_; cbv) | (refine Pv.DrawK.go 0 (by decide +kernel) ?_; cbv) | (refine Pv.DrawK.go 1 (by decide +kernel) ?_; cbv) | (refine Pv.DrawK.go 2 (by decide +kernel) ?_; cbv) | (refine Pv.LineK.go 0 (by decide +kernel) (by kernel_rfl) ?_; cbv) | (refine Pv.LineK.go 1 (by decide +kernel) (by kernel_rfl) ?_; cbv) | (refine Pv.LenK.intro ?_; intro _ _ _; cbv) | (refine Pv.LenNK.intro ?_; intro _ _ _; cbv) | (refine Pv.BinK.lssT (by omega) ?_; cbv) | (refine Pv.BinK.lssF (by omega) ?_; cbv) | (refine Pv.BinK.leqT (by omega) ?_; cbv) | (refine Pv.BinK.leqF (by omega) ?_; cbv) | (refine Pv.BinK.gtrT (by omega) ?_; cbv) | (refine Pv.BinK.gtrF (by omega) ?_; cbv) | (refine Pv.BinK.geqT (by omega) ?_; cbv) | (refine Pv.BinK.geqF (by omega) ?_; cbv) | (refine Pv.BinK.eqlT (by omega) ?_; cbv) | (refine Pv.BinK.eqlF (by omega) ?_; cbv) | (refine Pv.BinK.neqT (by omega) ?_; cbv) | (refine Pv.BinK.neqF (by omega) ?_; cbv) | (refine Pv.BinK.add (by omega) ?_; intro _ _; cbv) | (refine Pv.BinK.sub (by omega) ?_; intro _ _; cbv) | (refine Pv.RegK.go ?_; cbv)))
  first | refine CallK.one c0 (cons_pure pa rfl) rfl ?_ | refine PCallK.one c0 (cons_pure pa rfl) rfl ?_
  rcases b0 with _ | _
  case' true =>
    cbv
    (repeat' (first | (refine Pv.StatK.go (by kernel_rfl) (by kernel_rfl) ?_; cbv) | (refine Pv.DrawK.go 0 (by decide +kernel) ?_; cbv) | (refine Pv.DrawK.go 1 (by decide +kernel) ?_; cbv) | (refine Pv.DrawK.go 2 (by decide +kernel) ?_; cbv) | (refine Pv.LineK.go 0 (by decide +kernel) (by kernel_rfl) ?_; cbv) | (refine Pv.LineK.go 1 (by decide +kernel) (by kernel_rfl) ?_; cbv) | (refine Pv.LenK.intro ?_; intro _ _ _; cbv) | (refine Pv.LenNK.intro ?_; intro _ _ _; cbv) | (refine Pv.BinK.lssT (by omega) ?_; cbv) | (refine Pv.BinK.lssF (by omega) ?_; cbv) | (refine Pv.BinK.leqT (by omega) ?_; cbv) | (refine Pv.BinK.leqF (by omega) ?_; cbv) | (refine Pv.BinK.gtrT (by omega) ?_; cbv) | (refine Pv.BinK.gtrF (by omega) ?_; cbv) | (refine Pv.BinK.geqT (by omega) ?_; cbv) | (refine Pv.BinK.geqF (by omega) ?_; cbv) | (refine Pv.BinK.eqlT (by omega) ?_; cbv) | (refine Pv.BinK.eqlF (by omega) ?_; cbv) | (refine Pv.BinK.neqT (by omega) ?_; cbv) | (refine Pv.BinK.neqF (by omega) ?_; cbv) | (refine Pv.BinK.add (by omega) ?_; intro _ _; cbv) | (refine Pv.BinK.sub (by omega) ?_; intro _ _; cbv) | (refine Pv.RegK.go ?_; cbv)))
    exact ⟨q0 rfl rfl _⟩
  cbv
  (repeat' (first | (refine Pv.StatK.go (by kernel_rfl) (by kernel_rfl) ?_; cbv) | (refine Pv.DrawK.go 0 (by decide +kernel) ?_; cbv) | (refine Pv.DrawK.go 1 (by decide +kernel) ?_; cbv) | (refine Pv.DrawK.go 2 (by decide +kernel) ?_; cbv) | (refine Pv.LineK.go 0 (by decide +kernel) (by kernel_rfl) ?_; cbv) | (refine Pv.LineK.go 1 (by decide +kernel) (by kernel_rfl) ?_; cbv) | (refine Pv.LenK.intro ?_; intro _ _ _; cbv) | (refine Pv.LenNK.intro ?_; intro _ _ _; cbv) | (refine Pv.BinK.lssT (by omega) ?_; cbv) | (refine Pv.BinK.lssF (by omega) ?_; cbv) | (refine Pv.BinK.leqT (by omega) ?_; cbv) | (refine Pv.BinK.leqF (by omega) ?_; cbv) | (refine Pv.BinK.gtrT (by omega) ?_; cbv) | (refine Pv.BinK.gtrF (by omega) ?_; cbv) | (refine Pv.BinK.geqT (by omega) ?_; cbv) | (refine Pv.BinK.geqF (by omega) ?_; cbv) | (refine Pv.BinK.eqlT (by omega) ?_; cbv) | (refine Pv.BinK.eqlF (by omega) ?_; cbv) | (refine Pv.BinK.neqT (by omega) ?_; cbv) | (refine Pv.BinK.neqF (by omega) ?_; cbv) | (refine Pv.BinK.add (by omega) ?_; intro _ _; cbv) | (refine Pv.BinK.sub (by omega) ?_; intro _ _; cbv) | (refine Pv.RegK.go ?_; cbv)))
  first | refine CallK.one c2 (cons_pure pa (cons_pure pb rfl)) rfl ?_ | refine PCallK.one c2 (cons_pure pa (cons_pure pb rfl)) rfl ?_
  rcases b2 with _ | _
  · cbv
    (repeat' (first | (refine Pv.StatK.go (by kernel_rfl) (by kernel_rfl) ?_; cbv) | (refine Pv.DrawK.go 0 (by decide +kernel) ?_; cbv) | (refine Pv.DrawK.go 1 (by decide +kernel) ?_; cbv) | (refine Pv.DrawK.go 2 (by decide +kernel) ?_; cbv) | (refine Pv.LineK.go 0 (by decide +kernel) (by kernel_rfl) ?_; cbv) | (refine Pv.LineK.go 1 (by decide +kernel) (by kernel_rfl) ?_; cbv) | (refine Pv.LenK.intro ?_; intro _ _ _; cbv) | (refine Pv.LenNK.intro ?_; intro _ _ _; cbv) | (refine Pv.BinK.lssT (by omega) ?_; cbv) | (refine Pv.BinK.lssF (by omega) ?_; cbv) | (refine Pv.BinK.leqT (by omega) ?_; cbv) | (refine Pv.BinK.leqF (by omega) ?_; cbv) | (refine Pv.BinK.gtrT (by omega) ?_; cbv) | (refine Pv.BinK.gtrF (by omega) ?_; cbv) | (refine Pv.BinK.geqT (by omega) ?_; cbv) | (refine Pv.BinK.geqF (by omega) ?_; cbv) | (refine Pv.BinK.eqlT (by omega) ?_; cbv) | (refine Pv.BinK.eqlF (by omega) ?_; cbv) | (refine Pv.BinK.neqT (by omega) ?_; cbv) | (refine Pv.BinK.neqF (by omega) ?_; cbv) | (refine Pv.BinK.add (by omega) ?_; intro _ _; cbv) | (refine Pv.BinK.sub (by omega) ?_; intro _ _; cbv) | (refine Pv.RegK.go ?_; cbv)))
    exact ⟨q2 rfl rfl rfl _⟩
  have hl := hlen rfl
  obtain ⟨q5, q6⟩ := q4 rfl rfl rfl
  clear q0 q1 q2 q4 c0 c1 c2
  cbv
  (repeat' (first | (refine Pv.StatK.go (by kernel_rfl) (by kernel_rfl) ?_; cbv) | (refine Pv.DrawK.go 0 (by decide +kernel) ?_; cbv) | (refine Pv.DrawK.go 1 (by decide +kernel) ?_; cbv) | (refine Pv.DrawK.go 2 (by decide +kernel) ?_; cbv) | (refine Pv.LineK.go 0 (by decide +kernel) (by kernel_rfl) ?_; cbv) | (refine Pv.LineK.go 1 (by decide +kernel) (by kernel_rfl) ?_; cbv) | (refine Pv.LenK.intro ?_; intro _ _ _; cbv) | (refine Pv.LenNK.intro ?_; intro _ _ _; cbv) | (refine Pv.BinK.lssT (by omega) ?_; cbv) | (refine Pv.BinK.lssF (by omega) ?_; cbv) | (refine Pv.BinK.leqT (by omega) ?_; cbv) | (refine Pv.BinK.leqF (by omega) ?_; cbv) | (refine Pv.BinK.gtrT (by omega) ?_; cbv) | (refine Pv.BinK.gtrF (by omega) ?_; cbv) | (refine Pv.BinK.geqT (by omega) ?_; cbv) | (refine Pv.BinK.geqF (by omega) ?_; cbv) | (refine Pv.BinK.eqlT (by omega) ?_; cbv) | (refine Pv.BinK.eqlF (by omega) ?_; cbv) | (refine Pv.BinK.neqT (by omega) ?_; cbv) | (refine Pv.BinK.neqF (by omega) ?_; cbv) | (refine Pv.BinK.add (by omega) ?_; intro _ _; cbv) | (refine Pv.BinK.sub (by omega) ?_; intro _ _; cbv) | (refine Pv.RegK.go ?_; cbv)))
  refine LoopK.cellLog 3 4 25 5 rfl rfl ?_
  cbv
  refine LoopK.put (X := Int × List D × Nat × List Ty5) (fun x => [(7, .raw (.int .i64 x.1))]) (fun x => [(3, .box 25 [.raw (.int .i64 k), .raw (.int .i64 n), .raw (.string nm), .sl none 1 LS, .sl (some 4) 5 x.2.1]), (4, .log 25 5 x.2.2.1)]) (fun x => ks.length - x.1.toNat)
    (fun x => 0 ≤ x.1 ∧ x.1.toNat ≤ ks.length ∧ x.2.1 = tysD x.2.2.2 ∧ x.2.2.1 = x.2.1.length ∧ x.2.2.2.length = x.1.toNat ∧ ∀ (j : Nat) (t u : Ty5), j < x.1.toNat → ks[j]? = some t → ks'[j]? = some u → fuseT t u = x.2.2.2[j]?) (0, [], 0, []) ⟨by simp, by simp, rfl, rfl, rfl, fun j t u hj => absurd hj (Nat.not_lt_zero _)⟩ rfl rfl ?_
  rintro ⟨i, L, nl, vs⟩ N ⟨h0, hi, hL, hnl, hvl, hj⟩ hN
  simp only at h0 hi hL hnl hvl hj hN ⊢
  have hLl : L.length = i.toNat := by rw [hL, tys_len]; exact hvl
  cbv
  (repeat' (first | (refine Pv.StatK.go (by kernel_rfl) (by kernel_rfl) ?_; cbv) | (refine Pv.DrawK.go 0 (by decide +kernel) ?_; cbv) | (refine Pv.DrawK.go 1 (by decide +kernel) ?_; cbv) | (refine Pv.DrawK.go 2 (by decide +kernel) ?_; cbv) | (refine Pv.LineK.go 0 (by decide +kernel) (by kernel_rfl) ?_; cbv) | (refine Pv.LineK.go 1 (by decide +kernel) (by kernel_rfl) ?_; cbv) | (refine Pv.LenK.intro ?_; intro _ _ _; cbv) | (refine Pv.LenNK.intro ?_; intro _ _ _; cbv) | (refine Pv.BinK.lssT (by omega) ?_; cbv) | (refine Pv.BinK.lssF (by omega) ?_; cbv) | (refine Pv.BinK.leqT (by omega) ?_; cbv) | (refine Pv.BinK.leqF (by omega) ?_; cbv) | (refine Pv.BinK.gtrT (by omega) ?_; cbv) | (refine Pv.BinK.gtrF (by omega) ?_; cbv) | (refine Pv.BinK.geqT (by omega) ?_; cbv) | (refine Pv.BinK.geqF (by omega) ?_; cbv) | (refine Pv.BinK.eqlT (by omega) ?_; cbv) | (refine Pv.BinK.eqlF (by omega) ?_; cbv) | (refine Pv.BinK.neqT (by omega) ?_; cbv) | (refine Pv.BinK.neqF (by omega) ?_; cbv) | (refine Pv.BinK.add (by omega) ?_; intro _ _; cbv) | (refine Pv.BinK.sub (by omega) ?_; intro _ _; cbv) | (refine Pv.RegK.go ?_; cbv)))
  refine BinK.lss ?_ ?_ <;> intro hlt <;> cbv <;> (repeat' (first | (refine Pv.StatK.go (by kernel_rfl) (by kernel_rfl) ?_; cbv) | (refine Pv.DrawK.go 0 (by decide +kernel) ?_; cbv) | (refine Pv.DrawK.go 1 (by decide +kernel) ?_; cbv) | (refine Pv.DrawK.go 2 (by decide +kernel) ?_; cbv) | (refine Pv.LineK.go 0 (by decide +kernel) (by kernel_rfl) ?_; cbv) | (refine Pv.LineK.go 1 (by decide +kernel) (by kernel_rfl) ?_; cbv) | (refine Pv.LenK.intro ?_; intro _ _ _; cbv) | (refine Pv.LenNK.intro ?_; intro _ _ _; cbv) | (refine Pv.BinK.lssT (by omega) ?_; cbv) | (refine Pv.BinK.lssF (by omega) ?_; cbv) | (refine Pv.BinK.leqT (by omega) ?_; cbv) | (refine Pv.BinK.leqF (by omega) ?_; cbv) | (refine Pv.BinK.gtrT (by omega) ?_; cbv) | (refine Pv.BinK.gtrF (by omega) ?_; cbv) | (refine Pv.BinK.geqT (by omega) ?_; cbv) | (refine Pv.BinK.geqF (by omega) ?_; cbv) | (refine Pv.BinK.eqlT (by omega) ?_; cbv) | (refine Pv.BinK.eqlF (by omega) ?_; cbv) | (refine Pv.BinK.neqT (by omega) ?_; cbv) | (refine Pv.BinK.neqF (by omega) ?_; cbv) | (refine Pv.BinK.add (by omega) ?_; intro _ _; cbv) | (refine Pv.BinK.sub (by omega) ?_; intro _ _; cbv) | (refine Pv.RegK.go ?_; cbv)))
  · obtain ⟨t, ht, hK⟩ := hKat i.toNat (by omega)
    obtain ⟨u, hu, hK'⟩ := hKat' i.toNat (by omega)
    have hct := hc t (List.mem_of_getElem? ht) u (List.mem_of_getElem? hu)
    have hpt := ty_pure t
    have hpu := ty_pure u
    have hpo := optP_pure (fuseT t u)
    have hno : fuseT t u = none → fuseL ks ks' = none := fun e => fuseL_not ht hu e
    have hnext : ∀ v, fuseT t u = some v → ∀ r : Int, r = i + 1 → ∀ (j : Nat) (t u : Ty5), j < r.toNat → ks[j]? = some t → ks'[j]? = some u → fuseT t u = (vs ++ [v])[j]? := fun v e r hr j x y hjr hx hy => by
      by_cases hji : j = i.toNat
      · rw [hji, ht] at hx
        rw [hji, hu] at hy
        cases hx
        cases hy
        rw [hji, List.getElem?_append_right (by omega), show i.toNat - vs.length = 0 by omega]
        exact e
      · rw [List.getElem?_append_left (by omega)]
        exact hj j x y (by omega) hx hy
    unfold optP at hct hpo
    generalize fuseT t u = o at hct hpo hno hnext
    obtain ⟨k0, n0, m0, L0, K0, f0, i0, j0⟩ := c4_node t
    obtain ⟨k1, n1, m1, L1, K1, f1, i1, j1⟩ := c4_node u
    clear i0 j0 i1 j1
    rw [f0] at hct hpt hK
    rw [f1] at hct hpu hK'
    clear f0 f1 hc hj ht hu
    rcases o with _ | v
    · have q5 := q5 (hno rfl)
      simp only [Option.isSome_none] at hct hpo
      generalize optT none = z at hct hpo
      obtain ⟨k3, n3, m3, L3, K3, f3, _, _⟩ := c4_node z
      rw [f3] at hct hpo
      refine IdxK.intro h0 hK ?_
      cbv
      (repeat' (first | (refine Pv.StatK.go (by kernel_rfl) (by kernel_rfl) ?_; cbv) | (refine Pv.DrawK.go 0 (by decide +kernel) ?_; cbv) | (refine Pv.DrawK.go 1 (by decide +kernel) ?_; cbv) | (refine Pv.DrawK.go 2 (by decide +kernel) ?_; cbv) | (refine Pv.LineK.go 0 (by decide +kernel) (by kernel_rfl) ?_; cbv) | (refine Pv.LineK.go 1 (by decide +kernel) (by kernel_rfl) ?_; cbv) | (refine Pv.LenK.intro ?_; intro _ _ _; cbv) | (refine Pv.LenNK.intro ?_; intro _ _ _; cbv) | (refine Pv.BinK.lssT (by omega) ?_; cbv) | (refine Pv.BinK.lssF (by omega) ?_; cbv) | (refine Pv.BinK.leqT (by omega) ?_; cbv) | (refine Pv.BinK.leqF (by omega) ?_; cbv) | (refine Pv.BinK.gtrT (by omega) ?_; cbv) | (refine Pv.BinK.gtrF (by omega) ?_; cbv) | (refine Pv.BinK.geqT (by omega) ?_; cbv) | (refine Pv.BinK.geqF (by omega) ?_; cbv) | (refine Pv.BinK.eqlT (by omega) ?_; cbv) | (refine Pv.BinK.eqlF (by omega) ?_; cbv) | (refine Pv.BinK.neqT (by omega) ?_; cbv) | (refine Pv.BinK.neqF (by omega) ?_; cbv) | (refine Pv.BinK.add (by omega) ?_; intro _ _; cbv) | (refine Pv.BinK.sub (by omega) ?_; intro _ _; cbv) | (refine Pv.RegK.go ?_; cbv)))
      refine IdxK.intro h0 hK' ?_
      cbv
      (repeat' (first | (refine Pv.StatK.go (by kernel_rfl) (by kernel_rfl) ?_; cbv) | (refine Pv.DrawK.go 0 (by decide +kernel) ?_; cbv) | (refine Pv.DrawK.go 1 (by decide +kernel) ?_; cbv) | (refine Pv.DrawK.go 2 (by decide +kernel) ?_; cbv) | (refine Pv.LineK.go 0 (by decide +kernel) (by kernel_rfl) ?_; cbv) | (refine Pv.LineK.go 1 (by decide +kernel) (by kernel_rfl) ?_; cbv) | (refine Pv.LenK.intro ?_; intro _ _ _; cbv) | (refine Pv.LenNK.intro ?_; intro _ _ _; cbv) | (refine Pv.BinK.lssT (by omega) ?_; cbv) | (refine Pv.BinK.lssF (by omega) ?_; cbv) | (refine Pv.BinK.leqT (by omega) ?_; cbv) | (refine Pv.BinK.leqF (by omega) ?_; cbv) | (refine Pv.BinK.gtrT (by omega) ?_; cbv) | (refine Pv.BinK.gtrF (by omega) ?_; cbv) | (refine Pv.BinK.geqT (by omega) ?_; cbv) | (refine Pv.BinK.geqF (by omega) ?_; cbv) | (refine Pv.BinK.eqlT (by omega) ?_; cbv) | (refine Pv.BinK.eqlF (by omega) ?_; cbv) | (refine Pv.BinK.neqT (by omega) ?_; cbv) | (refine Pv.BinK.neqF (by omega) ?_; cbv) | (refine Pv.BinK.add (by omega) ?_; intro _ _; cbv) | (refine Pv.BinK.sub (by omega) ?_; intro _ _; cbv) | (refine Pv.RegK.go ?_; cbv)))
      first | refine CallK.one hct (cons_pure hpt (cons_pure hpu rfl)) hpo ?_ | refine PCallK.one hct (cons_pure hpt (cons_pure hpu rfl)) hpo ?_
      cbv
      (repeat' (first | (refine Pv.StatK.go (by kernel_rfl) (by kernel_rfl) ?_; cbv) | (refine Pv.DrawK.go 0 (by decide +kernel) ?_; cbv) | (refine Pv.DrawK.go 1 (by decide +kernel) ?_; cbv) | (refine Pv.DrawK.go 2 (by decide +kernel) ?_; cbv) | (refine Pv.LineK.go 0 (by decide +kernel) (by kernel_rfl) ?_; cbv) | (refine Pv.LineK.go 1 (by decide +kernel) (by kernel_rfl) ?_; cbv) | (refine Pv.LenK.intro ?_; intro _ _ _; cbv) | (refine Pv.LenNK.intro ?_; intro _ _ _; cbv) | (refine Pv.BinK.lssT (by omega) ?_; cbv) | (refine Pv.BinK.lssF (by omega) ?_; cbv) | (refine Pv.BinK.leqT (by omega) ?_; cbv) | (refine Pv.BinK.leqF (by omega) ?_; cbv) | (refine Pv.BinK.gtrT (by omega) ?_; cbv) | (refine Pv.BinK.gtrF (by omega) ?_; cbv) | (refine Pv.BinK.geqT (by omega) ?_; cbv) | (refine Pv.BinK.geqF (by omega) ?_; cbv) | (refine Pv.BinK.eqlT (by omega) ?_; cbv) | (refine Pv.BinK.eqlF (by omega) ?_; cbv) | (refine Pv.BinK.neqT (by omega) ?_; cbv) | (refine Pv.BinK.neqF (by omega) ?_; cbv) | (refine Pv.BinK.add (by omega) ?_; intro _ _; cbv) | (refine Pv.BinK.sub (by omega) ?_; intro _ _; cbv) | (refine Pv.RegK.go ?_; cbv)))
      exact ⟨q5 _⟩
    · have hnext := hnext v rfl
      have hv2 : tysD (vs ++ [v]) = L ++ [tyD v] := by rw [hL]; simp [tysD_map]
      simp only [Option.isSome_some, show optT (some v) = v from rfl] at hct hpo
      obtain ⟨k3, n3, m3, L3, K3, f3, i3, j3⟩ := c4_node v
      clear i3 j3
      rw [f3] at hct hpo hv2
      refine IdxK.intro h0 hK ?_
      cbv
      (repeat' (first | (refine Pv.StatK.go (by kernel_rfl) (by kernel_rfl) ?_; cbv) | (refine Pv.DrawK.go 0 (by decide +kernel) ?_; cbv) | (refine Pv.DrawK.go 1 (by decide +kernel) ?_; cbv) | (refine Pv.DrawK.go 2 (by decide +kernel) ?_; cbv) | (refine Pv.LineK.go 0 (by decide +kernel) (by kernel_rfl) ?_; cbv) | (refine Pv.LineK.go 1 (by decide +kernel) (by kernel_rfl) ?_; cbv) | (refine Pv.LenK.intro ?_; intro _ _ _; cbv) | (refine Pv.LenNK.intro ?_; intro _ _ _; cbv) | (refine Pv.BinK.lssT (by omega) ?_; cbv) | (refine Pv.BinK.lssF (by omega) ?_; cbv) | (refine Pv.BinK.leqT (by omega) ?_; cbv) | (refine Pv.BinK.leqF (by omega) ?_; cbv) | (refine Pv.BinK.gtrT (by omega) ?_; cbv) | (refine Pv.BinK.gtrF (by omega) ?_; cbv) | (refine Pv.BinK.geqT (by omega) ?_; cbv) | (refine Pv.BinK.geqF (by omega) ?_; cbv) | (refine Pv.BinK.eqlT (by omega) ?_; cbv) | (refine Pv.BinK.eqlF (by omega) ?_; cbv) | (refine Pv.BinK.neqT (by omega) ?_; cbv) | (refine Pv.BinK.neqF (by omega) ?_; cbv) | (refine Pv.BinK.add (by omega) ?_; intro _ _; cbv) | (refine Pv.BinK.sub (by omega) ?_; intro _ _; cbv) | (refine Pv.RegK.go ?_; cbv)))
      refine IdxK.intro h0 hK' ?_
      cbv
      (repeat' (first | (refine Pv.StatK.go (by kernel_rfl) (by kernel_rfl) ?_; cbv) | (refine Pv.DrawK.go 0 (by decide +kernel) ?_; cbv) | (refine Pv.DrawK.go 1 (by decide +kernel) ?_; cbv) | (refine Pv.DrawK.go 2 (by decide +kernel) ?_; cbv) | (refine Pv.LineK.go 0 (by decide +kernel) (by kernel_rfl) ?_; cbv) | (refine Pv.LineK.go 1 (by decide +kernel) (by kernel_rfl) ?_; cbv) | (refine Pv.LenK.intro ?_; intro _ _ _; cbv) | (refine Pv.LenNK.intro ?_; intro _ _ _; cbv) | (refine Pv.BinK.lssT (by omega) ?_; cbv) | (refine Pv.BinK.lssF (by omega) ?_; cbv) | (refine Pv.BinK.leqT (by omega) ?_; cbv) | (refine Pv.BinK.leqF (by omega) ?_; cbv) | (refine Pv.BinK.gtrT (by omega) ?_; cbv) | (refine Pv.BinK.gtrF (by omega) ?_; cbv) | (refine Pv.BinK.geqT (by omega) ?_; cbv) | (refine Pv.BinK.geqF (by omega) ?_; cbv) | (refine Pv.BinK.eqlT (by omega) ?_; cbv) | (refine Pv.BinK.eqlF (by omega) ?_; cbv) | (refine Pv.BinK.neqT (by omega) ?_; cbv) | (refine Pv.BinK.neqF (by omega) ?_; cbv) | (refine Pv.BinK.add (by omega) ?_; intro _ _; cbv) | (refine Pv.BinK.sub (by omega) ?_; intro _ _; cbv) | (refine Pv.RegK.go ?_; cbv)))
      first | refine CallK.one hct (cons_pure hpt (cons_pure hpu rfl)) hpo ?_ | refine PCallK.one hct (cons_pure hpt (cons_pure hpu rfl)) hpo ?_
      cbv
      (repeat' (first | (refine Pv.StatK.go (by kernel_rfl) (by kernel_rfl) ?_; cbv) | (refine Pv.DrawK.go 0 (by decide +kernel) ?_; cbv) | (refine Pv.DrawK.go 1 (by decide +kernel) ?_; cbv) | (refine Pv.DrawK.go 2 (by decide +kernel) ?_; cbv) | (refine Pv.LineK.go 0 (by decide +kernel) (by kernel_rfl) ?_; cbv) | (refine Pv.LineK.go 1 (by decide +kernel) (by kernel_rfl) ?_; cbv) | (refine Pv.LenK.intro ?_; intro _ _ _; cbv) | (refine Pv.LenNK.intro ?_; intro _ _ _; cbv) | (refine Pv.BinK.lssT (by omega) ?_; cbv) | (refine Pv.BinK.lssF (by omega) ?_; cbv) | (refine Pv.BinK.leqT (by omega) ?_; cbv) | (refine Pv.BinK.leqF (by omega) ?_; cbv) | (refine Pv.BinK.gtrT (by omega) ?_; cbv) | (refine Pv.BinK.gtrF (by omega) ?_; cbv) | (refine Pv.BinK.geqT (by omega) ?_; cbv) | (refine Pv.BinK.geqF (by omega) ?_; cbv) | (refine Pv.BinK.eqlT (by omega) ?_; cbv) | (refine Pv.BinK.eqlF (by omega) ?_; cbv) | (refine Pv.BinK.neqT (by omega) ?_; cbv) | (refine Pv.BinK.neqF (by omega) ?_; cbv) | (refine Pv.BinK.add (by omega) ?_; intro _ _; cbv) | (refine Pv.BinK.sub (by omega) ?_; intro _ _; cbv) | (refine Pv.RegK.go ?_; cbv)))
      refine AppK.sl el_tys el_tys rfl hnl (by simp only [List.length_cons, List.length_nil]; omega) ?_
      intro L' nl' hL' hnl'
      cbv
      (repeat' (first | (refine Pv.StatK.go (by kernel_rfl) (by kernel_rfl) ?_; cbv) | (refine Pv.DrawK.go 0 (by decide +kernel) ?_; cbv) | (refine Pv.DrawK.go 1 (by decide +kernel) ?_; cbv) | (refine Pv.DrawK.go 2 (by decide +kernel) ?_; cbv) | (refine Pv.LineK.go 0 (by decide +kernel) (by kernel_rfl) ?_; cbv) | (refine Pv.LineK.go 1 (by decide +kernel) (by kernel_rfl) ?_; cbv) | (refine Pv.LenK.intro ?_; intro _ _ _; cbv) | (refine Pv.LenNK.intro ?_; intro _ _ _; cbv) | (refine Pv.BinK.lssT (by omega) ?_; cbv) | (refine Pv.BinK.lssF (by omega) ?_; cbv) | (refine Pv.BinK.leqT (by omega) ?_; cbv) | (refine Pv.BinK.leqF (by omega) ?_; cbv) | (refine Pv.BinK.gtrT (by omega) ?_; cbv) | (refine Pv.BinK.gtrF (by omega) ?_; cbv) | (refine Pv.BinK.geqT (by omega) ?_; cbv) | (refine Pv.BinK.geqF (by omega) ?_; cbv) | (refine Pv.BinK.eqlT (by omega) ?_; cbv) | (refine Pv.BinK.eqlF (by omega) ?_; cbv) | (refine Pv.BinK.neqT (by omega) ?_; cbv) | (refine Pv.BinK.neqF (by omega) ?_; cbv) | (refine Pv.BinK.add (by omega) ?_; intro _ _; cbv) | (refine Pv.BinK.sub (by omega) ?_; intro _ _; cbv) | (refine Pv.RegK.go ?_; cbv)))
      rename_i r hr
      have hnext := hnext r hr
      have hL2 : L' = tysD (vs ++ [v]) := by rw [hv2]; exact hL'
      have hLi2 : ∀ m, idbL m L' = true := fun m => pure_idbL m _ (by rw [hL2]; exact tys_pure _)
      refine RoundK.forget (r, L', nl', vs ++ [v]) ⟨by omega, by omega, hL2, hnl', by rw [List.length_append]; simp; omega, hnext⟩ (by omega) rfl rfl ?_ ?_
      · simp [idbL, idb, hLi, hLi', hKi, hKi']
      · simp [cellIdb, idbL, idb, hLi, hLi', hKi, hKi', hLi2]
  · have hf : fuseL ks ks' = some vs := fuseL_of hl (by omega) fun j t u ht hu => hj j t u (by have := (List.getElem?_eq_some_iff.1 ht).1; omega) ht hu
    subst hL
    exact ⟨q6 vs hf _ _⟩
theorem rfuse_cp : ∀ (a : Ty5), nodesT a ≤ 1000000 → okT a → ∀ b, okT b → CP (TT ()) 13 [tyD a, tyD b] (· = optP (fuseT a b)) := by
  intro a
  induction hz : szT a using Nat.strongRecOn generalizing a with
  | ind z ih =>
    obtain ⟨k, n, nm, ls, ks⟩ := a
    intro hn ha b hb
    obtain ⟨k', n', nm', ls', ks'⟩ := b
    have hkn := nodesL_len ks
    simp only [nodesT] at hn
    refine c4_runW (optP_pure _) fun Q hQ => rfuse_run k n nm ls ks k' n' nm' ls' ks' ha hb (by omega) (fun t ht u hu => ih (szT t) ?_ t rfl ?_ (okL_get ha.2.2 t ht) u (okL_get hb.2.2 u hu)) Q hQ
    · have := szL_mem ht
      rw [← hz]
      simp only [szT]
      omega
    · have := nodesL_mem ht
      omega
end Go.Proofs.Ytlklpangckkkaaa
