/- The text of a type, and that tyfmt's write writes it. -/
import Derived.Test.YtiajemakpdpnaaaDoorPwRd
import Derived.Test.YtiajemakpdpnaaaDoorTyRi
namespace Go.Proofs.YtiajemakpdpnaaaDoor
open Go.RowKit Pv
def kT : Ty5 → Int
  | .mk k _ _ _ _ => k
def combT (k n : Int) (nm : ByteArray) (ls : List ByteArray) (kinds : List Int) (ts : List (List UInt8)) : List UInt8 :=
  if k = 1 then [73, 110, 116] else if k = 2 then [66, 111, 111, 108] else if k = 3 then [83, 116, 114, 105, 110, 103] else if k = 4 then [84, 111, 112] else if k = 5 then [63]
  else if k = 6 then nm.data.toList else if k = 9 then [35] ++ Lib.itoa n
  else if k = 7 then (if kinds.getD 0 0 = 7 then [40] ++ ts.getD 0 [] ++ [41] else ts.getD 0 []) ++ [32, 45, 62, 32] ++ ts.getD 1 []
  else if k = 8 then recX [123] ls ts ts.length ++ [125] else []
mutual
/-- A type's text. -/
def showT : Ty5 → List UInt8
  | .mk k n nm ls ks => combT k n nm ls (ks.map kT) (showL ks)
def showL : List Ty5 → List (List UInt8)
  | [] => []
  | t :: r => showT t :: showL r
end
theorem showL_map : ∀ ks : List Ty5, showL ks = ks.map showT
  | [] => rfl
  | t :: r => by simp [showL, showL_map r]
theorem write_rec (n : Int) (nm : ByteArray) (LS KS : List D) (hL : idbL 2 LS = true) (hK : idbL 2 KS = true) (S T : List UInt8) (hr : Step 42 [nodeD 8 n nm LS KS, addD] S T) : Step 33 [nodeD 8 n nm LS KS, addD] S T := by
  refine Step.run (by simp [idbL, idb, hL, hK, addD]) fun c0 c1 hG Q hQ => ?_
  unfold addD at hr
  cbv
  (repeat' (first | (refine Pv.StatK.go (by kernel_rfl) (by kernel_rfl) ?_; cbv) | (refine Pv.DrawK.go 0 (by decide +kernel) ?_; cbv) | (refine Pv.DrawK.go 1 (by decide +kernel) ?_; cbv) | (refine Pv.DrawK.go 2 (by decide +kernel) ?_; cbv) | (refine Pv.LineK.go 0 (by decide +kernel) (by kernel_rfl) ?_; cbv) | (refine Pv.LineK.go 1 (by decide +kernel) (by kernel_rfl) ?_; cbv) | (refine Pv.LenK.intro ?_; intro _ _ _; cbv) | (refine Pv.LenNK.intro ?_; intro _ _ _; cbv) | (refine Pv.BinK.lssT (by omega) ?_; cbv) | (refine Pv.BinK.lssF (by omega) ?_; cbv) | (refine Pv.BinK.leqT (by omega) ?_; cbv) | (refine Pv.BinK.leqF (by omega) ?_; cbv) | (refine Pv.BinK.gtrT (by omega) ?_; cbv) | (refine Pv.BinK.gtrF (by omega) ?_; cbv) | (refine Pv.BinK.geqT (by omega) ?_; cbv) | (refine Pv.BinK.geqF (by omega) ?_; cbv) | (refine Pv.BinK.eqlT (by omega) ?_; cbv) | (refine Pv.BinK.eqlF (by omega) ?_; cbv) | (refine Pv.BinK.neqT (by omega) ?_; cbv) | (refine Pv.BinK.neqF (by omega) ?_; cbv) | (refine Pv.BinK.add (by omega) ?_; intro _ _; cbv) | (refine Pv.BinK.sub (by omega) ?_; intro _ _; cbv)))
  refine CallK.mut (hr _ _ _ hG) ?_
  rintro d h' ⟨rfl, e0, e1, hG1, rfl⟩
  cbv
  (repeat' (first | (refine Pv.StatK.go (by kernel_rfl) (by kernel_rfl) ?_; cbv) | (refine Pv.DrawK.go 0 (by decide +kernel) ?_; cbv) | (refine Pv.DrawK.go 1 (by decide +kernel) ?_; cbv) | (refine Pv.DrawK.go 2 (by decide +kernel) ?_; cbv) | (refine Pv.LineK.go 0 (by decide +kernel) (by kernel_rfl) ?_; cbv) | (refine Pv.LineK.go 1 (by decide +kernel) (by kernel_rfl) ?_; cbv) | (refine Pv.LenK.intro ?_; intro _ _ _; cbv) | (refine Pv.LenNK.intro ?_; intro _ _ _; cbv) | (refine Pv.BinK.lssT (by omega) ?_; cbv) | (refine Pv.BinK.lssF (by omega) ?_; cbv) | (refine Pv.BinK.leqT (by omega) ?_; cbv) | (refine Pv.BinK.leqF (by omega) ?_; cbv) | (refine Pv.BinK.gtrT (by omega) ?_; cbv) | (refine Pv.BinK.gtrF (by omega) ?_; cbv) | (refine Pv.BinK.geqT (by omega) ?_; cbv) | (refine Pv.BinK.geqF (by omega) ?_; cbv) | (refine Pv.BinK.eqlT (by omega) ?_; cbv) | (refine Pv.BinK.eqlF (by omega) ?_; cbv) | (refine Pv.BinK.neqT (by omega) ?_; cbv) | (refine Pv.BinK.neqF (by omega) ?_; cbv) | (refine Pv.BinK.add (by omega) ?_; intro _ _; cbv) | (refine Pv.BinK.sub (by omega) ?_; intro _ _; cbv)))
  exact ⟨hQ _ _ _ hG1⟩
theorem ty_node (t : Ty5) : ∃ k n nm L K, tyD t = nodeD k n nm L K ∧ k = kT t ∧ (∀ m, idbL m L = true) ∧ ∀ m, idbL m K = true := by
  obtain ⟨k, n, nm, ls, ks⟩ := t
  exact ⟨k, n, nm, _, _, rfl, rfl, fun m => pure_idbL m _ (strs_pure ls), fun m => pure_idbL m _ (tys_pure ks)⟩
theorem rightL_get : ∀ {ks : List Ty5}, rightL varB risingB ks = true → ∀ t ∈ ks, rightT varB risingB t = true
  | [], _, t, h => by cases h
  | a :: r, h, t, ht => by
    simp only [rightL, Bool.and_eq_true] at h
    rcases List.mem_cons.1 ht with rfl | ht
    · exact h.1
    · exact rightL_get h.2 t ht
/-- What a right node is. -/
theorem head_cases {k n : Int} {nm : ByteArray} {ls : List ByteArray} {len : Nat} (h : headB varB risingB k n nm ls len = true) : (1 ≤ k ∧ k ≤ 5) ∨ k = 6 ∨ (k = 9 ∧ 0 ≤ n ∧ n ≤ 1073741824) ∨ (k = 7 ∧ len = 2) ∨ (k = 8 ∧ ls.length = len) := by
  unfold headB at h
  split at h
  · cases h
  · split at h
    · rename_i h1; exact .inl h1
    · split at h
      · rename_i h1; exact .inr (.inl h1)
      · split at h
        · rename_i h1
          simp only [Bool.and_eq_true, decide_eq_true_eq] at h
          exact .inr (.inr (.inl ⟨h1, h.1, h.2.1⟩))
        · split at h
          · rename_i h1
            simp only [beq_iff_eq] at h
            exact .inr (.inr (.inr (.inl ⟨h1, by omega⟩)))
          · simp only [Bool.and_eq_true, decide_eq_true_eq, beq_iff_eq] at h
            exact .inr (.inr (.inr (.inr ⟨h.1, by omega⟩)))
mutual
theorem write_any : ∀ (t : Ty5), rightT varB risingB t = true → ∀ S : List UInt8, S.length + (showT t).length ≤ 140737488355328 → Step 33 [tyD t, addD] S (S ++ showT t)
  | .mk k n nm ls ks, hR, S, hr => by
    simp only [rightT, Bool.and_eq_true] at hR
    have hall := write_all ks hR.1
    have hhead := head_cases hR.2
    have hLi : ∀ m, idbL m (ls.map strD) = true := fun m => pure_idbL m _ (strs_pure ls)
    have hKi : ∀ m, idbL m (tysD ks) = true := fun m => pure_idbL m _ (tys_pure ks)
    simp only [showT, showL_map] at hr ⊢
    simp only [tyD]
    rcases hhead with ⟨h1, h5⟩ | rfl | ⟨rfl, h0, h9⟩ | ⟨rfl, hlen⟩ | ⟨rfl, hlen⟩
    · rcases (by omega : k = 1 ∨ k = 2 ∨ k = 3 ∨ k = 4 ∨ k = 5) with rfl | rfl | rfl | rfl | rfl
      · exact write_k1 n nm _ _ (hLi 2) (hKi 2) S hr
      · exact write_k2 n nm _ _ (hLi 2) (hKi 2) S hr
      · exact write_k3 n nm _ _ (hLi 2) (hKi 2) S hr
      · exact write_k4 n nm _ _ (hLi 2) (hKi 2) S hr
      · exact write_k5 n nm _ _ (hLi 2) (hKi 2) S hr
    · have e : combT 6 n nm ls (ks.map kT) (ks.map showT) = nm.data.toList := rfl
      rw [e] at hr ⊢
      rw [size_list] at hr
      exact write_var n nm _ _ (hLi 2) (hKi 2) S hr
    · have e : combT 9 n nm ls (ks.map kT) (ks.map showT) = [35] ++ Lib.itoa n := rfl
      rw [e] at hr ⊢
      simp only [List.length_append, List.length_cons, List.length_nil] at hr
      have := write_seal n nm _ _ (hLi 2) (hKi 2) S (by omega) (by omega) (by omega)
      rw [List.append_assoc] at this
      exact this
    · obtain ⟨a, b, rfl⟩ : ∃ a b, ks = [a, b] := by
        match ks, hlen with
        | [a, b], _ => exact ⟨a, b, rfl⟩
      have ha := hall a (by simp)
      have hb := hall b (by simp)
      obtain ⟨k0, n0, m0, L0, K0, f0, g0, i0, j0⟩ := ty_node a
      obtain ⟨k1, n1, m1, L1, K1, f1, g1, i1, j1⟩ := ty_node b
      have e : combT 7 n nm ls ([a, b].map kT) ([a, b].map showT) = (if kT a = 7 then [40] ++ showT a ++ [41] else showT a) ++ [32, 45, 62, 32] ++ showT b := rfl
      rw [e, ← g0] at hr ⊢
      simp only [tysD]
      rw [f0] at ha ⊢
      rw [f1] at hb ⊢
      simp only [List.length_append, List.length_cons, List.length_nil] at hr
      rw [← List.append_assoc, ← List.append_assoc]
      by_cases h7 : k0 = 7
      · subst h7
        rw [if_pos rfl] at hr ⊢
        simp only [List.length_append, List.length_cons, List.length_nil] at hr
        refine write_fun n nm _ _ _ _ _ _ _ _ _ _ _ (hLi 2) (i0 2) (j0 2) (i1 2) (j1 2) S _ _ ?_ (add_step _ ⟨#[32, 45, 62, 32]⟩ ?_) _ (hb _ ?_)
        · rw [← List.append_assoc, ← List.append_assoc]
          exact param_fun _ _ _ _ (i0 2) (j0 2) _ _ _ _ (add_step _ ⟨#[40]⟩ (by show _ + 1 ≤ _; omega)) (ha _ (by simp only [List.length_append, List.length_cons, List.length_nil]; omega)) (add_step _ ⟨#[41]⟩ (by show _ + 1 ≤ _; simp only [List.length_append, List.length_cons, List.length_nil]; omega))
        · show _ + 4 ≤ _; simp only [List.length_append, List.length_cons, List.length_nil]; omega
        · simp only [List.length_append, List.length_cons, List.length_nil]; omega
      · rw [if_neg h7] at hr ⊢
        refine write_fun n nm _ _ _ _ _ _ _ _ _ _ _ (hLi 2) (i0 2) (j0 2) (i1 2) (j1 2) S _ _ (param_other _ _ _ _ _ h7 (i0 2) (j0 2) _ _ (ha S (by omega))) (add_step _ ⟨#[32, 45, 62, 32]⟩ ?_) _ (hb _ ?_)
        · show _ + 4 ≤ _; simp only [List.length_append, List.length_cons, List.length_nil]; omega
        · simp only [List.length_append, List.length_cons, List.length_nil]; omega
    · have e : combT 8 n nm ls (ks.map kT) (ks.map showT) = recX [123] ls (ks.map showT) (ks.map showT).length ++ [125] := rfl
      rw [e] at hr ⊢
      have hKl : (tysD ks).length = ks.length := by simp [tysD_map]
      rw [List.length_map, ← List.append_assoc, ← recX_app, ← hKl]
      rw [List.length_map, ← hKl] at hr
      refine write_rec n nm _ _ (hLi 2) (hKi 2) S _ (record_step n nm ls _ (ks.map showT) (by omega) (fun m _ => hKi m) (fun j A hA => ?_) S ?_ (fun j A hA U hU => ?_))
      · rw [tysD_map, List.getElem?_map, Option.map_eq_some_iff] at hA
        obtain ⟨t, _, rfl⟩ := hA
        obtain ⟨k0, n0, m0, L0, K0, f0, g0, i0, j0⟩ := ty_node t
        exact ⟨k0, n0, m0, L0, K0, f0, fun m _ => i0 m, fun m _ => j0 m⟩
      · rw [recX_app]
        simp only [List.length_append, List.length_cons, List.length_nil] at hr ⊢
        omega
      · rw [tysD_map, List.getElem?_map, Option.map_eq_some_iff] at hA
        obtain ⟨t, ht, rfl⟩ := hA
        have hx : (ks.map showT).getD j [] = showT t := by rw [List.getD_eq_getElem?_getD, List.getElem?_map, ht]; rfl
        rw [hx] at hU ⊢
        exact hall t (List.mem_of_getElem? ht) U hU
theorem write_all : ∀ (ks : List Ty5), rightL varB risingB ks = true → ∀ t ∈ ks, ∀ S : List UInt8, S.length + (showT t).length ≤ 140737488355328 → Step 33 [tyD t, addD] S (S ++ showT t)
  | [], _, t, h => by cases h
  | a :: r, hR, t, ht => by
    simp only [rightL, Bool.and_eq_true] at hR
    have ha := write_any a hR.1
    have hr := write_all r hR.2
    rcases List.mem_cons.1 ht with e | ht
    · rw [e]; exact ha
    · exact hr t ht
end
end Go.Proofs.YtiajemakpdpnaaaDoor
