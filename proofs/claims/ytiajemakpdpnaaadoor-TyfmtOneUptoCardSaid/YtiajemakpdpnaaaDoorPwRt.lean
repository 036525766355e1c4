/- limbeckref05.show and Show of any type. -/
import Derived.Test.YtiajemakpdpnaaaDoorPwRs
namespace Go.Proofs.YtiajemakpdpnaaaDoor
open Go.RowKit Pv
theorem cp_run {k : FuncId} {ds : List D} {u : Value} (h : ∀ Q : D → H → Prop, (∀ h', Q (.raw u) h') → wfun TT k ds [] Q) : CP (TT ()) k ds (· = .raw u) :=
  (wfun_ok (T := TT) (by kernel_rfl) (h (fun d _ => d = .raw u) fun _ => rfl)).cp fun d h' h => ⟨d, by rw [h]; rfl, h⟩
theorem digits_all (n : Int) (h0 : 0 ≤ n) (h1 : n ≤ 1073741824) : CP (TT ()) 34 [.raw (.int .i64 n)] (· = .raw (.string (txt (Lib.itoa n)))) := digits_cp (n.toNat + 1) n (Nat.lt_succ_self _) h0 h1
mutual
theorem showr_any : ∀ (t : Ty5), rightT varB risingB t = true → (showT t).length ≤ 140737488355328 → CP (TT ()) 20 [tyD t] (· = .raw (.string (txt (showT t))))
  | .mk k n nm ls ks, hR, hr => by
    simp only [rightT, Bool.and_eq_true] at hR
    have hall := showr_all ks hR.1
    have hhead := head_cases hR.2
    have hKi : ∀ m, idbL m (tysD ks) = true := fun m => pure_idbL m _ (tys_pure ks)
    simp only [showT, showL_map] at hr ⊢
    simp only [tyD]
    rcases hhead with ⟨h1, h5⟩ | rfl | ⟨rfl, h0, h9⟩ | ⟨rfl, hlen⟩ | ⟨rfl, hlen⟩
    · rcases (by omega : k = 1 ∨ k = 2 ∨ k = 3 ∨ k = 4 ∨ k = 5) with rfl | rfl | rfl | rfl | rfl
      · exact cp_run (showr_k1 n nm _ _)
      · exact cp_run (showr_k2 n nm _ _)
      · exact cp_run (showr_k3 n nm _ _)
      · exact cp_run (showr_k4 n nm _ _)
      · exact cp_run (showr_k5 n nm _ _)
    · have e : combT 6 n nm ls (ks.map kT) (ks.map showT) = nm.data.toList := rfl
      rw [e, ← txt_list]
      exact cp_run (showr_var n nm _ _)
    · have e : combT 9 n nm ls (ks.map kT) (ks.map showT) = [35] ++ Lib.itoa n := rfl
      rw [e]
      exact cp_run (showr_seal n nm _ _ _ (by have := Lib.itoa_length_le n (by omega) (by omega); omega) (digits_all n h0 h9))
    · obtain ⟨a, b, rfl⟩ : ∃ a b, ks = [a, b] := by
        match ks, hlen with
        | [a, b], _ => exact ⟨a, b, rfl⟩
      have ha := hall a (by simp)
      have hb := hall b (by simp)
      have hpa := ty_pure a
      have hpb := ty_pure b
      obtain ⟨k0, n0, m0, L0, K0, f0, g0, i0, j0⟩ := ty_node a
      obtain ⟨k1, n1, m1, L1, K1, f1, g1, i1, j1⟩ := ty_node b
      have e : combT 7 n nm ls ([a, b].map kT) ([a, b].map showT) = (if kT a = 7 then [40] ++ showT a ++ [41] else showT a) ++ [32, 45, 62, 32] ++ showT b := rfl
      rw [e, ← g0] at hr ⊢
      simp only [tysD]
      rw [f0] at ha hpa ⊢
      rw [f1] at hb hpb ⊢
      have hlen : (showT a).length + (showT b).length ≤ 140737488355328 := by
        split at hr <;> simp only [List.length_append, List.length_cons, List.length_nil] at hr <;> omega
      exact cp_run (showr_fun n nm _ _ _ _ _ _ _ _ _ _ _ hpa hpb _ _ hlen (ha (by omega)) (hb (by omega)))
    · have e : combT 8 n nm ls (ks.map kT) (ks.map showT) = recX [123] ls (ks.map showT) (ks.map showT).length ++ [125] := rfl
      rw [e] at hr ⊢
      have hKl : (tysD ks).length = ks.length := by simp [tysD_map]
      rw [List.length_map, ← hKl]
      rw [List.length_map, ← hKl] at hr
      simp only [List.length_append, List.length_cons, List.length_nil] at hr
      refine cp_run (showr_rec n nm ls _ (ks.map showT) (by omega) (fun j A hA => ?_) (by omega) (fun j A hA => ?_) hKi)
      · rw [tysD_map, List.getElem?_map, Option.map_eq_some_iff] at hA
        obtain ⟨t, _, rfl⟩ := hA
        obtain ⟨k0, n0, m0, L0, K0, f0, g0, i0, j0⟩ := ty_node t
        exact ⟨⟨k0, n0, m0, L0, K0, f0⟩, ty_pure t⟩
      · have hj : j < (tysD ks).length := (List.getElem?_eq_some_iff.1 hA).1
        have hat := recX_at [123] ls (ks.map showT) hj
        rw [tysD_map, List.getElem?_map, Option.map_eq_some_iff] at hA
        obtain ⟨t, ht, rfl⟩ := hA
        have hx : (ks.map showT).getD j [] = showT t := by rw [List.getD_eq_getElem?_getD, List.getElem?_map, ht]; rfl
        rw [hx] at hat ⊢
        exact hall t (List.mem_of_getElem? ht) (by omega)
theorem showr_all : ∀ (ks : List Ty5), rightL varB risingB ks = true → ∀ t ∈ ks, (showT t).length ≤ 140737488355328 → CP (TT ()) 20 [tyD t] (· = .raw (.string (txt (showT t))))
  | [], _, t, h => by cases h
  | a :: r, hR, t, ht => by
    simp only [rightL, Bool.and_eq_true] at hR
    have ha := showr_any a hR.1
    have hr := showr_all r hR.2
    rcases List.mem_cons.1 ht with e | ht
    · rw [e]; exact ha
    · exact hr t ht
end
theorem rright_cp (t : Ty5) (ho : okT t) : CP (TT ()) 14 [tyD t] (· = .raw (.bool (rightT varB risingB t))) :=
  cp_raw (callable_at Tryd.func14 (by kernel_rfl) rfl) fun S w args r => by
    obtain ⟨v, rfl, h⟩ := rdL_one r
    obtain ⟨v0, v1, v2, v3, v4, rfl, hT⟩ := ty_in t ho h
    exact rright_all t v0 v1 v2 v3 v4 w hT
set_option maxRecDepth 20000 in
theorem showR_cp (t : Ty5) (ho : okT t) (hr : (shT t).length ≤ 140737488355328) : CP (TT ()) 9 [tyD t] (· = .raw (.string (txt (shT t)))) := by
  have hc := rright_cp t ho
  have hw : rightT varB risingB t = true → CP (TT ()) 20 [tyD t] (· = .raw (.string (txt (shT t)))) := fun h => by
    unfold shT at hr ⊢
    rw [if_pos h] at hr ⊢
    exact showr_any t h hr
  have hno : rightT varB risingB t = false → txt (shT t) = ⟨#[]⟩ := fun h => by
    unfold shT
    rw [h]
    rfl
  have hp := ty_pure t
  generalize txt (shT t) = z at hw hno ⊢
  generalize rightT varB risingB t = q at hc hw hno
  obtain ⟨k, n, nm, L, K, f0, g0, i0, j0⟩ := ty_node t
  rw [f0] at hc hw hp ⊢
  refine cp_run fun Q hQ => ?_
  cbv
  (repeat' (first | (refine Pv.StatK.go (by kernel_rfl) (by kernel_rfl) ?_; cbv) | (refine Pv.DrawK.go 0 (by decide +kernel) ?_; cbv) | (refine Pv.DrawK.go 1 (by decide +kernel) ?_; cbv) | (refine Pv.DrawK.go 2 (by decide +kernel) ?_; cbv) | (refine Pv.LineK.go 0 (by decide +kernel) (by kernel_rfl) ?_; cbv) | (refine Pv.LineK.go 1 (by decide +kernel) (by kernel_rfl) ?_; cbv) | (refine Pv.LenK.intro ?_; intro _ _ _; cbv) | (refine Pv.LenNK.intro ?_; intro _ _ _; cbv) | (refine Pv.BinK.lssT (by omega) ?_; cbv) | (refine Pv.BinK.lssF (by omega) ?_; cbv) | (refine Pv.BinK.leqT (by omega) ?_; cbv) | (refine Pv.BinK.leqF (by omega) ?_; cbv) | (refine Pv.BinK.gtrT (by omega) ?_; cbv) | (refine Pv.BinK.gtrF (by omega) ?_; cbv) | (refine Pv.BinK.geqT (by omega) ?_; cbv) | (refine Pv.BinK.geqF (by omega) ?_; cbv) | (refine Pv.BinK.eqlT (by omega) ?_; cbv) | (refine Pv.BinK.eqlF (by omega) ?_; cbv) | (refine Pv.BinK.neqT (by omega) ?_; cbv) | (refine Pv.BinK.neqF (by omega) ?_; cbv) | (refine Pv.BinK.add (by omega) ?_; intro _ _; cbv) | (refine Pv.BinK.sub (by omega) ?_; intro _ _; cbv)))
  refine CallK.one hc (cons_pure hp rfl) rfl ?_
  rcases q with _ | _
  · rw [hno rfl] at hQ
    cbv
    (repeat' (first | (refine Pv.StatK.go (by kernel_rfl) (by kernel_rfl) ?_; cbv) | (refine Pv.DrawK.go 0 (by decide +kernel) ?_; cbv) | (refine Pv.DrawK.go 1 (by decide +kernel) ?_; cbv) | (refine Pv.DrawK.go 2 (by decide +kernel) ?_; cbv) | (refine Pv.LineK.go 0 (by decide +kernel) (by kernel_rfl) ?_; cbv) | (refine Pv.LineK.go 1 (by decide +kernel) (by kernel_rfl) ?_; cbv) | (refine Pv.LenK.intro ?_; intro _ _ _; cbv) | (refine Pv.LenNK.intro ?_; intro _ _ _; cbv) | (refine Pv.BinK.lssT (by omega) ?_; cbv) | (refine Pv.BinK.lssF (by omega) ?_; cbv) | (refine Pv.BinK.leqT (by omega) ?_; cbv) | (refine Pv.BinK.leqF (by omega) ?_; cbv) | (refine Pv.BinK.gtrT (by omega) ?_; cbv) | (refine Pv.BinK.gtrF (by omega) ?_; cbv) | (refine Pv.BinK.geqT (by omega) ?_; cbv) | (refine Pv.BinK.geqF (by omega) ?_; cbv) | (refine Pv.BinK.eqlT (by omega) ?_; cbv) | (refine Pv.BinK.eqlF (by omega) ?_; cbv) | (refine Pv.BinK.neqT (by omega) ?_; cbv) | (refine Pv.BinK.neqF (by omega) ?_; cbv) | (refine Pv.BinK.add (by omega) ?_; intro _ _; cbv) | (refine Pv.BinK.sub (by omega) ?_; intro _ _; cbv)))
    exact ⟨hQ _⟩
  · cbv
    (repeat' (first | (refine Pv.StatK.go (by kernel_rfl) (by kernel_rfl) ?_; cbv) | (refine Pv.DrawK.go 0 (by decide +kernel) ?_; cbv) | (refine Pv.DrawK.go 1 (by decide +kernel) ?_; cbv) | (refine Pv.DrawK.go 2 (by decide +kernel) ?_; cbv) | (refine Pv.LineK.go 0 (by decide +kernel) (by kernel_rfl) ?_; cbv) | (refine Pv.LineK.go 1 (by decide +kernel) (by kernel_rfl) ?_; cbv) | (refine Pv.LenK.intro ?_; intro _ _ _; cbv) | (refine Pv.LenNK.intro ?_; intro _ _ _; cbv) | (refine Pv.BinK.lssT (by omega) ?_; cbv) | (refine Pv.BinK.lssF (by omega) ?_; cbv) | (refine Pv.BinK.leqT (by omega) ?_; cbv) | (refine Pv.BinK.leqF (by omega) ?_; cbv) | (refine Pv.BinK.gtrT (by omega) ?_; cbv) | (refine Pv.BinK.gtrF (by omega) ?_; cbv) | (refine Pv.BinK.geqT (by omega) ?_; cbv) | (refine Pv.BinK.geqF (by omega) ?_; cbv) | (refine Pv.BinK.eqlT (by omega) ?_; cbv) | (refine Pv.BinK.eqlF (by omega) ?_; cbv) | (refine Pv.BinK.neqT (by omega) ?_; cbv) | (refine Pv.BinK.neqF (by omega) ?_; cbv) | (refine Pv.BinK.add (by omega) ?_; intro _ _; cbv) | (refine Pv.BinK.sub (by omega) ?_; intro _ _; cbv)))
    refine CallK.one (hw rfl) (cons_pure hp rfl) rfl ?_
    cbv
    (repeat' (first | (refine Pv.StatK.go (by kernel_rfl) (by kernel_rfl) ?_; cbv) | (refine Pv.DrawK.go 0 (by decide +kernel) ?_; cbv) | (refine Pv.DrawK.go 1 (by decide +kernel) ?_; cbv) | (refine Pv.DrawK.go 2 (by decide +kernel) ?_; cbv) | (refine Pv.LineK.go 0 (by decide +kernel) (by kernel_rfl) ?_; cbv) | (refine Pv.LineK.go 1 (by decide +kernel) (by kernel_rfl) ?_; cbv) | (refine Pv.LenK.intro ?_; intro _ _ _; cbv) | (refine Pv.LenNK.intro ?_; intro _ _ _; cbv) | (refine Pv.BinK.lssT (by omega) ?_; cbv) | (refine Pv.BinK.lssF (by omega) ?_; cbv) | (refine Pv.BinK.leqT (by omega) ?_; cbv) | (refine Pv.BinK.leqF (by omega) ?_; cbv) | (refine Pv.BinK.gtrT (by omega) ?_; cbv) | (refine Pv.BinK.gtrF (by omega) ?_; cbv) | (refine Pv.BinK.geqT (by omega) ?_; cbv) | (refine Pv.BinK.geqF (by omega) ?_; cbv) | (refine Pv.BinK.eqlT (by omega) ?_; cbv) | (refine Pv.BinK.eqlF (by omega) ?_; cbv) | (refine Pv.BinK.neqT (by omega) ?_; cbv) | (refine Pv.BinK.neqF (by omega) ?_; cbv) | (refine Pv.BinK.add (by omega) ?_; intro _ _; cbv) | (refine Pv.BinK.sub (by omega) ?_; intro _ _; cbv)))
    exact ⟨hQ _⟩
end Go.Proofs.YtiajemakpdpnaaaDoor
