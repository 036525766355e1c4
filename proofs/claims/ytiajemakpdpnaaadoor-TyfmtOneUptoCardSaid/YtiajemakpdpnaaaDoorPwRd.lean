/- tyfmt.record and its closure. -/
import Derived.Test.YtiajemakpdpnaaaDoorPwJo
namespace Go.Proofs.YtiajemakpdpnaaaDoor
open Go.RowKit Pv
set_option maxRecDepth 20000 in
set_option maxHeartbeats 4000000 in
theorem rec1_run (n : Int) (nm : ByteArray) (LS KS : List D) (i : Int) (k' n' : Int) (nm' : ByteArray) (L' K' : List D) (s : ByteArray) (Y W Z X : List UInt8) (h0 : 0 ≤ i) (hs : LS[i.toNat]? = some (.raw (.string s)))
    (ha : Step 28 [.raw (.string s), .bx 0 0] Y W) (hb : Step 28 [.raw (.string ⟨#[58, 32]⟩), .bx 0 0] W Z) (hw : Step 33 [nodeD k' n' nm' L' K', addD] Z X)
    (c0 c1 bx : Cell) (hG : GB Y c0 c1) (Q : D → H → Prop) (hQ : ∀ e0 e1 tl, GB X e0 e1 → Q (.tup []) (e0 :: e1 :: .box 25 [.raw (.int .i64 8), .raw (.int .i64 n), .raw (.string nm), .sl none 1 LS, .sl none 5 KS] :: .box 39 [addD] :: tl)) :
    wfun TT 53 [.raw (.int .i64 i), nodeD k' n' nm' L' K', .bx 3 0, .bx 2 0] [c0, c1, .box 25 [.raw (.int .i64 8), .raw (.int .i64 n), .raw (.string nm), .sl none 1 LS, .sl none 5 KS], .box 39 [addD], bx] Q := by
  unfold addD at hw hQ ⊢
  cbv
  (repeat' (first | (refine Pv.StatK.go (by kernel_rfl) (by kernel_rfl) ?_; cbv) | (refine Pv.DrawK.go 1 (by decide +kernel) ?_; cbv) | (refine Pv.DrawK.go 2 (by decide +kernel) ?_; cbv) | (refine Pv.LineK.go 0 (by decide +kernel) (by kernel_rfl) ?_; cbv) | (refine Pv.LineK.go 1 (by decide +kernel) (by kernel_rfl) ?_; cbv) | (refine Pv.LenK.intro ?_; intro _ _ _; cbv) | (refine Pv.LenNK.intro ?_; intro _ _ _; cbv) | (refine Pv.BinK.lssT (by omega) ?_; cbv) | (refine Pv.BinK.lssF (by omega) ?_; cbv) | (refine Pv.BinK.leqT (by omega) ?_; cbv) | (refine Pv.BinK.leqF (by omega) ?_; cbv) | (refine Pv.BinK.gtrT (by omega) ?_; cbv) | (refine Pv.BinK.gtrF (by omega) ?_; cbv) | (refine Pv.BinK.geqT (by omega) ?_; cbv) | (refine Pv.BinK.geqF (by omega) ?_; cbv) | (refine Pv.BinK.eqlT (by omega) ?_; cbv) | (refine Pv.BinK.eqlF (by omega) ?_; cbv) | (refine Pv.BinK.neqT (by omega) ?_; cbv) | (refine Pv.BinK.neqF (by omega) ?_; cbv) | (refine Pv.BinK.add (by omega) ?_; intro _ _; cbv) | (refine Pv.BinK.sub (by omega) ?_; intro _ _; cbv)))
  refine IdxK.intro h0 hs ?_
  cbv
  (repeat' (first | (refine Pv.StatK.go (by kernel_rfl) (by kernel_rfl) ?_; cbv) | (refine Pv.DrawK.go 0 (by decide +kernel) ?_; cbv) | (refine Pv.DrawK.go 1 (by decide +kernel) ?_; cbv) | (refine Pv.DrawK.go 2 (by decide +kernel) ?_; cbv) | (refine Pv.LineK.go 0 (by decide +kernel) (by kernel_rfl) ?_; cbv) | (refine Pv.LineK.go 1 (by decide +kernel) (by kernel_rfl) ?_; cbv) | (refine Pv.LenK.intro ?_; intro _ _ _; cbv) | (refine Pv.LenNK.intro ?_; intro _ _ _; cbv) | (refine Pv.BinK.lssT (by omega) ?_; cbv) | (refine Pv.BinK.lssF (by omega) ?_; cbv) | (refine Pv.BinK.leqT (by omega) ?_; cbv) | (refine Pv.BinK.leqF (by omega) ?_; cbv) | (refine Pv.BinK.gtrT (by omega) ?_; cbv) | (refine Pv.BinK.gtrF (by omega) ?_; cbv) | (refine Pv.BinK.geqT (by omega) ?_; cbv) | (refine Pv.BinK.geqF (by omega) ?_; cbv) | (refine Pv.BinK.eqlT (by omega) ?_; cbv) | (refine Pv.BinK.eqlF (by omega) ?_; cbv) | (refine Pv.BinK.neqT (by omega) ?_; cbv) | (refine Pv.BinK.neqF (by omega) ?_; cbv) | (refine Pv.BinK.add (by omega) ?_; intro _ _; cbv) | (refine Pv.BinK.sub (by omega) ?_; intro _ _; cbv)))
  refine CallK.mut (ha _ _ _ hG) ?_
  rintro d h' ⟨rfl, e0, e1, hG1, rfl⟩
  cbv
  (repeat' (first | (refine Pv.StatK.go (by kernel_rfl) (by kernel_rfl) ?_; cbv) | (refine Pv.DrawK.go 0 (by decide +kernel) ?_; cbv) | (refine Pv.DrawK.go 1 (by decide +kernel) ?_; cbv) | (refine Pv.DrawK.go 2 (by decide +kernel) ?_; cbv) | (refine Pv.LineK.go 0 (by decide +kernel) (by kernel_rfl) ?_; cbv) | (refine Pv.LineK.go 1 (by decide +kernel) (by kernel_rfl) ?_; cbv) | (refine Pv.LenK.intro ?_; intro _ _ _; cbv) | (refine Pv.LenNK.intro ?_; intro _ _ _; cbv) | (refine Pv.BinK.lssT (by omega) ?_; cbv) | (refine Pv.BinK.lssF (by omega) ?_; cbv) | (refine Pv.BinK.leqT (by omega) ?_; cbv) | (refine Pv.BinK.leqF (by omega) ?_; cbv) | (refine Pv.BinK.gtrT (by omega) ?_; cbv) | (refine Pv.BinK.gtrF (by omega) ?_; cbv) | (refine Pv.BinK.geqT (by omega) ?_; cbv) | (refine Pv.BinK.geqF (by omega) ?_; cbv) | (refine Pv.BinK.eqlT (by omega) ?_; cbv) | (refine Pv.BinK.eqlF (by omega) ?_; cbv) | (refine Pv.BinK.neqT (by omega) ?_; cbv) | (refine Pv.BinK.neqF (by omega) ?_; cbv) | (refine Pv.BinK.add (by omega) ?_; intro _ _; cbv) | (refine Pv.BinK.sub (by omega) ?_; intro _ _; cbv)))
  refine CallK.mut (hb _ _ _ hG1) ?_
  rintro d h' ⟨rfl, f0, f1, hG2, rfl⟩
  cbv
  (repeat' (first | (refine Pv.StatK.go (by kernel_rfl) (by kernel_rfl) ?_; cbv) | (refine Pv.DrawK.go 0 (by decide +kernel) ?_; cbv) | (refine Pv.DrawK.go 1 (by decide +kernel) ?_; cbv) | (refine Pv.DrawK.go 2 (by decide +kernel) ?_; cbv) | (refine Pv.LineK.go 0 (by decide +kernel) (by kernel_rfl) ?_; cbv) | (refine Pv.LineK.go 1 (by decide +kernel) (by kernel_rfl) ?_; cbv) | (refine Pv.LenK.intro ?_; intro _ _ _; cbv) | (refine Pv.LenNK.intro ?_; intro _ _ _; cbv) | (refine Pv.BinK.lssT (by omega) ?_; cbv) | (refine Pv.BinK.lssF (by omega) ?_; cbv) | (refine Pv.BinK.leqT (by omega) ?_; cbv) | (refine Pv.BinK.leqF (by omega) ?_; cbv) | (refine Pv.BinK.gtrT (by omega) ?_; cbv) | (refine Pv.BinK.gtrF (by omega) ?_; cbv) | (refine Pv.BinK.geqT (by omega) ?_; cbv) | (refine Pv.BinK.geqF (by omega) ?_; cbv) | (refine Pv.BinK.eqlT (by omega) ?_; cbv) | (refine Pv.BinK.eqlF (by omega) ?_; cbv) | (refine Pv.BinK.neqT (by omega) ?_; cbv) | (refine Pv.BinK.neqF (by omega) ?_; cbv) | (refine Pv.BinK.add (by omega) ?_; intro _ _; cbv) | (refine Pv.BinK.sub (by omega) ?_; intro _ _; cbv)))
  refine CallK.mut (hw _ _ _ hG2) ?_
  rintro d h' ⟨rfl, g0, g1, hG3, rfl⟩
  cbv
  (repeat' (first | (refine Pv.StatK.go (by kernel_rfl) (by kernel_rfl) ?_; cbv) | (refine Pv.DrawK.go 0 (by decide +kernel) ?_; cbv) | (refine Pv.DrawK.go 1 (by decide +kernel) ?_; cbv) | (refine Pv.DrawK.go 2 (by decide +kernel) ?_; cbv) | (refine Pv.LineK.go 0 (by decide +kernel) (by kernel_rfl) ?_; cbv) | (refine Pv.LineK.go 1 (by decide +kernel) (by kernel_rfl) ?_; cbv) | (refine Pv.LenK.intro ?_; intro _ _ _; cbv) | (refine Pv.LenNK.intro ?_; intro _ _ _; cbv) | (refine Pv.BinK.lssT (by omega) ?_; cbv) | (refine Pv.BinK.lssF (by omega) ?_; cbv) | (refine Pv.BinK.leqT (by omega) ?_; cbv) | (refine Pv.BinK.leqF (by omega) ?_; cbv) | (refine Pv.BinK.gtrT (by omega) ?_; cbv) | (refine Pv.BinK.gtrF (by omega) ?_; cbv) | (refine Pv.BinK.geqT (by omega) ?_; cbv) | (refine Pv.BinK.geqF (by omega) ?_; cbv) | (refine Pv.BinK.eqlT (by omega) ?_; cbv) | (refine Pv.BinK.eqlF (by omega) ?_; cbv) | (refine Pv.BinK.neqT (by omega) ?_; cbv) | (refine Pv.BinK.neqF (by omega) ?_; cbv) | (refine Pv.BinK.add (by omega) ?_; intro _ _; cbv) | (refine Pv.BinK.sub (by omega) ?_; intro _ _; cbv)))
  exact ⟨hQ _ _ _ hG3⟩
def recX (S : List UInt8) (ls : List ByteArray) (tx : List (List UInt8)) : Nat → List UInt8
  | 0 => S
  | j + 1 => (if j = 0 then S else recX S ls tx j ++ [44, 32]) ++ (stAt ls j).data.toList ++ [58, 32] ++ tx.getD j []
def recY (S : List UInt8) (ls : List ByteArray) (tx : List (List UInt8)) (j : Nat) : List UInt8 := if j = 0 then S else recX S ls tx j ++ [44, 32]
theorem size_list (s : ByteArray) : s.data.toList.length = s.size := by rw [Array.length_toList]; rfl
theorem recX_succ (S : List UInt8) (ls : List ByteArray) (tx : List (List UInt8)) (j : Nat) : recX S ls tx (j + 1) = recY S ls tx j ++ (stAt ls j).data.toList ++ [58, 32] ++ tx.getD j [] := rfl
theorem recX_le (S : List UInt8) (ls : List ByteArray) (tx : List (List UInt8)) (j : Nat) : (recX S ls tx j).length ≤ (recY S ls tx j).length := by
  unfold recY
  split
  · rename_i h; subst h; exact Nat.le_refl _
  · simp
theorem recX_mono (S : List UInt8) (ls : List ByteArray) (tx : List (List UInt8)) : ∀ d j : Nat, (recX S ls tx j).length ≤ (recX S ls tx (j + d)).length
  | 0, _ => Nat.le_refl _
  | d + 1, j => by
    have h1 := recX_mono S ls tx d j
    have h2 := recX_le S ls tx (j + d)
    rw [← Nat.add_assoc, recX_succ]
    simp only [List.length_append]
    omega
theorem recX_two (S : List UInt8) (ls : List ByteArray) (tx : List (List UInt8)) : ∀ j : Nat, 2 * j ≤ (recX S ls tx j).length
  | 0 => Nat.zero_le _
  | j + 1 => by
    have h1 := recX_two S ls tx j
    have h2 := recX_le S ls tx j
    rw [recX_succ]
    simp only [List.length_append, List.length_cons, List.length_nil]
    omega
theorem recX_app (S U : List UInt8) (ls : List ByteArray) (tx : List (List UInt8)) : ∀ j : Nat, recX (S ++ U) ls tx j = S ++ recX U ls tx j
  | 0 => rfl
  | j + 1 => by
    simp only [recX, recX_app S U ls tx j]
    by_cases h : j = 0
    · simp [h]
    · simp [h]
theorem recX_at (S : List UInt8) (ls : List ByteArray) (tx : List (List UInt8)) {j n : Nat} (h : j < n) : (recY S ls tx j).length + (stAt ls j).size + 2 + (tx.getD j []).length ≤ (recX S ls tx n).length := by
  have := recX_mono S ls tx (n - (j + 1)) (j + 1)
  rw [show j + 1 + (n - (j + 1)) = n by omega, recX_succ] at this
  simp only [List.length_append, List.length_cons, List.length_nil] at this
  have hs : (stAt ls j).data.toList.length = (stAt ls j).size := size_list _
  omega
set_option maxRecDepth 20000 in
set_option maxHeartbeats 4000000 in
theorem record_step (n : Int) (nm : ByteArray) (ls : List ByteArray) (KS : List D) (tx : List (List UInt8)) (hl : ls.length = KS.length) (hKS : ∀ m, 2 ≤ m → idbL m KS = true)
    (hform : ∀ (j : Nat) (A : D), KS[j]? = some A → ∃ (k n : Int) (nm : ByteArray) (L K : List D), A = nodeD k n nm L K ∧ (∀ m, 2 ≤ m → idbL m L = true) ∧ (∀ m, 2 ≤ m → idbL m K = true))
    (S : List UInt8) (hfin : (recX (S ++ [123]) ls tx KS.length).length + 1 ≤ 140737488355328)
    (hw : ∀ (j : Nat) (A : D), KS[j]? = some A → ∀ U : List UInt8, U.length + (tx.getD j []).length ≤ 140737488355328 → Step 33 [A, addD] U (U ++ tx.getD j [])) :
    Step 42 [nodeD 8 n nm (ls.map strD) KS, addD] S (recX (S ++ [123]) ls tx KS.length ++ [125]) := by
  have hLi : ∀ m, idbL m (ls.map strD) = true := fun m => pure_idbL m _ (strs_pure ls)
  have hn : KS.length ≤ 140737488355328 := by
    have := recX_two (S ++ [123]) ls tx KS.length
    omega
  refine Step.run (by simp [idbL, idb, hLi, hKS, addD]) fun c0 c1 hG Q hQ => ?_
  have h123 : S.length + 1 ≤ 140737488355328 := by
    have := recX_mono (S ++ [123]) ls tx KS.length 0
    rw [Nat.zero_add] at this
    simp only [recX, List.length_append, List.length_cons, List.length_nil] at this
    omega
  have ha : Step 28 [.raw (.string ⟨#[123]⟩), .bx 0 0] S (S ++ [123]) := add_step S ⟨#[123]⟩ (by show S.length + 1 ≤ _; omega)
  have hb : Step 28 [.raw (.string ⟨#[125]⟩), .bx 0 0] (recX (S ++ [123]) ls tx KS.length) (recX (S ++ [123]) ls tx KS.length ++ [125]) := add_step _ ⟨#[125]⟩ (by show _ + 1 ≤ _; omega)
  have hj : ∀ c0 c1, GB (S ++ [123]) c0 c1 → CW (TT ()) 21 [.sl none 5 KS, addD, .fn (.func 53) [] [.bx 3 0, .bx 2 0]] [c0, c1, .box 25 [.raw (.int .i64 8), .raw (.int .i64 n), .raw (.string nm), .sl none 1 (ls.map strD), .sl none 5 KS], .box 39 [addD]]
      fun d h' => d = .tup [] ∧ ∃ e0 e1, GB (recX (S ++ [123]) ls tx KS.length) e0 e1 ∧ h' = [e0, e1, .box 25 [.raw (.int .i64 8), .raw (.int .i64 n), .raw (.string nm), .sl none 1 (ls.map strD), .sl none 5 KS], .box 39 [addD]] := fun c0 c1 hG => by
    refine wfun_ok (T := TT) (by kernel_rfl) (join2_run KS _ _ _ _ (recX (S ++ [123]) ls tx) (recY (S ++ [123]) ls tx) (fun j A hA => ?_) (hKS 4 (by decide)) (by simp [idbL, idb]) ⟨?_, ?_⟩ rfl (fun j h0 h1 => ?_) (fun i A h0 hA c0 c1 bx hG => ?_) hn c0 c1 hG _ fun e0 e1 hE => ⟨rfl, e0, e1, hE, rfl⟩)
    · obtain ⟨k, n, nm, L, K, h1, h2, h3⟩ := hform j A hA
      exact ⟨k, n, nm, L, K, h1, h2 4 (by decide), h3 4 (by decide)⟩
    · simp [cellIdb, idbL, idb, hLi, hKS]
    · simp [cellIdb, idbL, idb, addD]
    · have := recX_at (S ++ [123]) ls tx h1
      unfold recY at this ⊢
      rw [if_neg (by omega)] at this ⊢
      simp only [List.length_append, List.length_cons, List.length_nil] at this
      exact add_step _ ⟨#[44, 32]⟩ (by show _ + 2 ≤ _; omega)
    · have hlt : i.toNat < KS.length := (List.getElem?_eq_some_iff.1 hA).1
      have hat := recX_at (S ++ [123]) ls tx hlt
      obtain ⟨k', n', nm', L', K', rfl, _, _⟩ := hform _ _ hA
      have hw' := hw _ _ hA (recY (S ++ [123]) ls tx i.toNat ++ (stAt ls i.toNat).data.toList ++ [58, 32]) (by
        simp only [List.length_append, List.length_cons, List.length_nil]
        have hs : (stAt ls i.toNat).data.toList.length = (stAt ls i.toNat).size := size_list _
        omega)
      rw [← recX_succ] at hw'
      exact wfun_ok (T := TT) (by kernel_rfl) (rec1_run n nm _ KS i k' n' nm' L' K' (stAt ls i.toNat) _ _ _ _ h0 (by rw [List.getElem?_map, List.getElem?_eq_getElem (by omega), stAt_get (by omega)]; rfl)
        (add_step _ _ (by omega)) (add_step _ ⟨#[58, 32]⟩ (by
          show _ + 2 ≤ _
          simp only [List.length_append]
          have hs : (stAt ls i.toNat).data.toList.length = (stAt ls i.toNat).size := size_list _
          omega)) hw' c0 c1 bx hG _ fun e0 e1 tl hE => ⟨rfl, e0, e1, _, hE, rfl⟩)
  clear hw hform hfin h123 hl
  generalize recX (S ++ [123]) ls tx KS.length = T2 at hb hj hQ
  generalize T2 ++ [125] = T3 at hb hQ
  generalize S ++ [123] = T1 at ha hj
  generalize ls.map strD = LS at hj ⊢
  unfold addD at hj ⊢
  cbv
  (repeat' (first | (refine Pv.StatK.go (by kernel_rfl) (by kernel_rfl) ?_; cbv) | (refine Pv.DrawK.go 1 (by decide +kernel) ?_; cbv) | (refine Pv.DrawK.go 2 (by decide +kernel) ?_; cbv) | (refine Pv.LineK.go 0 (by decide +kernel) (by kernel_rfl) ?_; cbv) | (refine Pv.LineK.go 1 (by decide +kernel) (by kernel_rfl) ?_; cbv) | (refine Pv.LenK.intro ?_; intro _ _ _; cbv) | (refine Pv.LenNK.intro ?_; intro _ _ _; cbv) | (refine Pv.BinK.lssT (by omega) ?_; cbv) | (refine Pv.BinK.lssF (by omega) ?_; cbv) | (refine Pv.BinK.leqT (by omega) ?_; cbv) | (refine Pv.BinK.leqF (by omega) ?_; cbv) | (refine Pv.BinK.gtrT (by omega) ?_; cbv) | (refine Pv.BinK.gtrF (by omega) ?_; cbv) | (refine Pv.BinK.geqT (by omega) ?_; cbv) | (refine Pv.BinK.geqF (by omega) ?_; cbv) | (refine Pv.BinK.eqlT (by omega) ?_; cbv) | (refine Pv.BinK.eqlF (by omega) ?_; cbv) | (refine Pv.BinK.neqT (by omega) ?_; cbv) | (refine Pv.BinK.neqF (by omega) ?_; cbv) | (refine Pv.BinK.add (by omega) ?_; intro _ _; cbv) | (refine Pv.BinK.sub (by omega) ?_; intro _ _; cbv)))
  refine CallK.mut (ha _ _ _ hG) ?_
  rintro d h' ⟨rfl, e0, e1, hG1, rfl⟩
  cbv
  (repeat' (first | (refine Pv.StatK.go (by kernel_rfl) (by kernel_rfl) ?_; cbv) | (refine Pv.DrawK.go 1 (by decide +kernel) ?_; cbv) | (refine Pv.DrawK.go 2 (by decide +kernel) ?_; cbv) | (refine Pv.LineK.go 0 (by decide +kernel) (by kernel_rfl) ?_; cbv) | (refine Pv.LineK.go 1 (by decide +kernel) (by kernel_rfl) ?_; cbv) | (refine Pv.LenK.intro ?_; intro _ _ _; cbv) | (refine Pv.LenNK.intro ?_; intro _ _ _; cbv) | (refine Pv.BinK.lssT (by omega) ?_; cbv) | (refine Pv.BinK.lssF (by omega) ?_; cbv) | (refine Pv.BinK.leqT (by omega) ?_; cbv) | (refine Pv.BinK.leqF (by omega) ?_; cbv) | (refine Pv.BinK.gtrT (by omega) ?_; cbv) | (refine Pv.BinK.gtrF (by omega) ?_; cbv) | (refine Pv.BinK.geqT (by omega) ?_; cbv) | (refine Pv.BinK.geqF (by omega) ?_; cbv) | (refine Pv.BinK.eqlT (by omega) ?_; cbv) | (refine Pv.BinK.eqlF (by omega) ?_; cbv) | (refine Pv.BinK.neqT (by omega) ?_; cbv) | (refine Pv.BinK.neqF (by omega) ?_; cbv) | (refine Pv.BinK.add (by omega) ?_; intro _ _; cbv) | (refine Pv.BinK.sub (by omega) ?_; intro _ _; cbv)))
  refine CallK.mut (hj _ _ hG1) ?_
  rintro d h' ⟨rfl, f0, f1, hG2, rfl⟩
  cbv
  (repeat' (first | (refine Pv.StatK.go (by kernel_rfl) (by kernel_rfl) ?_; cbv) | (refine Pv.DrawK.go 1 (by decide +kernel) ?_; cbv) | (refine Pv.DrawK.go 2 (by decide +kernel) ?_; cbv) | (refine Pv.LineK.go 0 (by decide +kernel) (by kernel_rfl) ?_; cbv) | (refine Pv.LineK.go 1 (by decide +kernel) (by kernel_rfl) ?_; cbv) | (refine Pv.LenK.intro ?_; intro _ _ _; cbv) | (refine Pv.LenNK.intro ?_; intro _ _ _; cbv) | (refine Pv.BinK.lssT (by omega) ?_; cbv) | (refine Pv.BinK.lssF (by omega) ?_; cbv) | (refine Pv.BinK.leqT (by omega) ?_; cbv) | (refine Pv.BinK.leqF (by omega) ?_; cbv) | (refine Pv.BinK.gtrT (by omega) ?_; cbv) | (refine Pv.BinK.gtrF (by omega) ?_; cbv) | (refine Pv.BinK.geqT (by omega) ?_; cbv) | (refine Pv.BinK.geqF (by omega) ?_; cbv) | (refine Pv.BinK.eqlT (by omega) ?_; cbv) | (refine Pv.BinK.eqlF (by omega) ?_; cbv) | (refine Pv.BinK.neqT (by omega) ?_; cbv) | (refine Pv.BinK.neqF (by omega) ?_; cbv) | (refine Pv.BinK.add (by omega) ?_; intro _ _; cbv) | (refine Pv.BinK.sub (by omega) ?_; intro _ _; cbv)))
  refine CallK.mut (hb _ _ _ hG2) ?_
  rintro d h' ⟨rfl, g0, g1, hG3, rfl⟩
  cbv
  (repeat' (first | (refine Pv.StatK.go (by kernel_rfl) (by kernel_rfl) ?_; cbv) | (refine Pv.DrawK.go 1 (by decide +kernel) ?_; cbv) | (refine Pv.DrawK.go 2 (by decide +kernel) ?_; cbv) | (refine Pv.LineK.go 0 (by decide +kernel) (by kernel_rfl) ?_; cbv) | (refine Pv.LineK.go 1 (by decide +kernel) (by kernel_rfl) ?_; cbv) | (refine Pv.LenK.intro ?_; intro _ _ _; cbv) | (refine Pv.LenNK.intro ?_; intro _ _ _; cbv) | (refine Pv.BinK.lssT (by omega) ?_; cbv) | (refine Pv.BinK.lssF (by omega) ?_; cbv) | (refine Pv.BinK.leqT (by omega) ?_; cbv) | (refine Pv.BinK.leqF (by omega) ?_; cbv) | (refine Pv.BinK.gtrT (by omega) ?_; cbv) | (refine Pv.BinK.gtrF (by omega) ?_; cbv) | (refine Pv.BinK.geqT (by omega) ?_; cbv) | (refine Pv.BinK.geqF (by omega) ?_; cbv) | (refine Pv.BinK.eqlT (by omega) ?_; cbv) | (refine Pv.BinK.eqlF (by omega) ?_; cbv) | (refine Pv.BinK.neqT (by omega) ?_; cbv) | (refine Pv.BinK.neqF (by omega) ?_; cbv) | (refine Pv.BinK.add (by omega) ?_; intro _ _; cbv) | (refine Pv.BinK.sub (by omega) ?_; intro _ _; cbv)))
  exact ⟨hQ _ _ _ hG3⟩
end Go.Proofs.YtiajemakpdpnaaaDoor
