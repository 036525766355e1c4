/- The functions that the program's transformations keep in a field: what stands for a node, by bindings, by seals, by types. -/
import Derived.Test.YtbfmaicoefefaaaSbG
import Derived.Test.YtbfmaicoefefaaaSbL
set_option linter.unusedSimpArgs false
set_option linter.unusedVariables false
namespace Go.Proofs.Ytbfmaicoefefaaa
open Go.RowKit Pv
set_option maxRecDepth 100000
def noT : Ty5 := .mk 0 0 ⟨#[]⟩ [] []
/-- What a transformation's function answers of a node. -/
def insP (o : Option Ty5) : D := .tup [tyD (o.getD noT), .raw (.bool o.isSome)]
theorem insP_pure (o : Option Ty5) : pureD (insP o) = some (insP o) := by simp [insP, pureD, pureL, ty_pure]
theorem zero_wk : Wk (.agg zeroF) (tyD noT) := .agg (.cons (.refl _) (.cons (.refl _) (.cons (.refl _) (.cons (nil_any 1) (.cons (nil_any 5) .nil)))))
/-- The first place at which p holds; -1: there is none. -/
def IdxQ (m : List Bd) (p : Bd → Bool) (z : Int) : Prop := (z = -1 ∧ ∀ (j : Nat) (q : Bd), m[j]? = some q → p q = false) ∨ (0 ≤ z ∧ z.toNat < m.length ∧ (∃ q, m[z.toNat]? = some q ∧ p q = true) ∧ ∀ (j : Nat) (q : Bd), j < z.toNat → m[j]? = some q → p q = false)
set_option maxRecDepth 20000 in
set_option maxHeartbeats 4000000 in
theorem idxf_run (m : List Bd) (p : Bd → Bool) (f : FuncId) (cap : List D) (h : H) (hm : m.length ≤ 140737488355328) (hc : ∀ q ∈ m, CW (TT ()) f (bnD q :: cap) h fun d h' => d = .raw (.bool (p q)) ∧ h' = h)
    (Q : D → H → Prop) (hQ : ∀ z : Int, IdxQ m p z → Q (.raw (.int .i64 z)) h) : wfun TT 65 [.sl none 6 (bnsD m), .fn (.func f) [] cap] h Q := by
  have hBl := bns_len m
  have hBi := bns_idb m
  have hat := fun i => bns_at (m := m) (i := i)
  generalize bnsD m = BS at hBl hBi hat ⊢
  cbv
  (repeat'((first|(apply zS;kernel_rfl)|(apply zD;decide +kernel)|(apply zE;decide +kernel)|(apply zF;decide +kernel)|(apply zL;decide +kernel)|(apply zM;decide +kernel)|(apply zN;intros)|(apply zO;intros)|(apply zT;omega)|(apply zU;omega)|(apply zP;omega;intros)|(apply zQ;omega;intros)|apply zR);cbv))
  refine LoopK.put (X := Int) (fun x => [(8, .raw (.int .i64 x))]) (fun _ => []) (fun x => m.length - x.toNat) (fun x => 0 ≤ x ∧ x.toNat ≤ m.length ∧ ∀ (j : Nat) (q : Bd), j < x.toNat → m[j]? = some q → p q = false) 0 ⟨by simp, by simp, fun j q hj => absurd hj (Nat.not_lt_zero _)⟩ rfl rfl ?_
  rintro i N ⟨h0, hi, hj⟩ hN
  simp only at h0 hi hj hN ⊢
  cbv
  (repeat'((first|(apply zS;kernel_rfl)|(apply zD;decide +kernel)|(apply zE;decide +kernel)|(apply zF;decide +kernel)|(apply zL;decide +kernel)|(apply zM;decide +kernel)|(apply zN;intros)|(apply zO;intros)|(apply zT;omega)|(apply zU;omega)|(apply zP;omega;intros)|(apply zQ;omega;intros)|apply zR);cbv))
  refine BinK.lss ?_ ?_ <;> intro hlt <;> cbv <;> (repeat'((first|(apply zS;kernel_rfl)|(apply zD;decide +kernel)|(apply zE;decide +kernel)|(apply zF;decide +kernel)|(apply zL;decide +kernel)|(apply zM;decide +kernel)|(apply zN;intros)|(apply zO;intros)|(apply zT;omega)|(apply zU;omega)|(apply zP;omega;intros)|(apply zQ;omega;intros)|apply zR);cbv))
  · obtain ⟨q, hq, hB⟩ := hat i.toNat (by omega)
    have hcq := hc q (List.mem_of_getElem? hq)
    obtain ⟨k, n, nm, L, K, f0, f1, j1, j2⟩ := bn_node q
    clear f1 j1 j2
    rw [f0] at hB hcq
    have hyes : p q = true → Q (.raw (.int .i64 i)) h := fun e => hQ i (.inr ⟨h0, by omega, ⟨q, hq, e⟩, hj⟩)
    have hnext : p q = false → ∀ r : Int, r = i + 1 → ∀ (j : Nat) (q : Bd), j < r.toNat → m[j]? = some q → p q = false := fun e r hr j q' hjr hq' => by
      by_cases hji : j = i.toNat
      · rw [hji, hq] at hq'
        cases hq'
        exact e
      · exact hj j q' (by omega) hq'
    generalize p q = b at hcq hyes hnext
    generalize q.1 = pn at hB hcq
    clear hj hQ hq f0 hat hc
    refine IdxK.intro h0 hB ?_
    cbv
    (repeat'((first|(apply zS;kernel_rfl)|(apply zD;decide +kernel)|(apply zE;decide +kernel)|(apply zF;decide +kernel)|(apply zL;decide +kernel)|(apply zM;decide +kernel)|(apply zN;intros)|(apply zO;intros)|(apply zT;omega)|(apply zU;omega)|(apply zP;omega;intros)|(apply zQ;omega;intros)|apply zR);cbv))
    refine CallK.mut hcq ?_
    rintro d h' ⟨rfl, rfl⟩
    cases b with
    | true =>
      have hyes := hyes rfl
      cbv
      (repeat'((first|(apply zS;kernel_rfl)|(apply zD;decide +kernel)|(apply zE;decide +kernel)|(apply zF;decide +kernel)|(apply zL;decide +kernel)|(apply zM;decide +kernel)|(apply zN;intros)|(apply zO;intros)|(apply zT;omega)|(apply zU;omega)|(apply zP;omega;intros)|(apply zQ;omega;intros)|apply zR);cbv))
      exact ⟨hyes⟩
    | false =>
      have hnext := hnext rfl
      cbv
      (repeat'((first|(apply zS;kernel_rfl)|(apply zD;decide +kernel)|(apply zE;decide +kernel)|(apply zF;decide +kernel)|(apply zL;decide +kernel)|(apply zM;decide +kernel)|(apply zN;intros)|(apply zO;intros)|(apply zT;omega)|(apply zU;omega)|(apply zP;omega;intros)|(apply zQ;omega;intros)|apply zR);cbv))
      rename_i r hr
      have hnext := hnext r hr
      refine RoundK.next r ?_ ?_ ?_ ?_
      · exact ⟨by omega, by omega, hnext⟩
      · show m.length - r.toNat < N
        omega
      · rfl
      · rfl
  · have hno : Q (.raw (.int .i64 (-1))) h := hQ (-1) (.inl ⟨rfl, fun j q hq => hj j q (by
      have := (List.getElem?_eq_some_iff.1 hq).1
      omega) hq⟩)
    exact ⟨hno⟩
theorem idxf_cw (m : List Bd) (p : Bd → Bool) (f : FuncId) (cap : List D) (h : H) (hm : m.length ≤ 140737488355328) (hc : ∀ q ∈ m, CW (TT ()) f (bnD q :: cap) h fun d h' => d = .raw (.bool (p q)) ∧ h' = h) :
    CW (TT ()) 65 [.sl none 6 (bnsD m), .fn (.func f) [] cap] h fun d h' => ∃ z : Int, d = .raw (.int .i64 z) ∧ IdxQ m p z ∧ h' = h :=
  wfun_ok (T := TT) (by kernel_rfl) (idxf_run m p f cap h hm hc _ fun z hz => ⟨z, rfl, hz, rfl⟩)
/-- A node in its box, and the answer's box. -/
def nodeH (t : Ty5) : H := [.box 25 (tyF t), .box 25 zeroF]
set_option maxRecDepth 20000 in
set_option maxHeartbeats 4000000 in
theorem put11_run (q : Bd) (k n : Int) (nm : ByteArray) (ls : List ByteArray) (ks : List Ty5) (Q : D → H → Prop) (hQ : ∀ c, Q (.raw (.bool (decide (q.1 = nm)))) (nodeH (.mk k n nm ls ks) ++ [c])) :
    wfun TT 66 [bnD q, .bx 0 0] (nodeH (.mk k n nm ls ks)) Q := by
  obtain ⟨k1, n1, nm1, L, K, f0, f1, j1, j2⟩ := bn_node q
  rw [f0]
  clear f0 f1 j1 j2
  simp only [nodeH, tyF, tyD, leavesD, zeroF] at hQ ⊢
  generalize ls.map strD = LS at hQ ⊢
  generalize tysD ks = KS at hQ ⊢
  generalize q.1 = s at hQ ⊢
  have hyes : s = nm → ∀ c, Q (.raw (.bool true)) ([.box 25 [.raw (.int .i64 k), .raw (.int .i64 n), .raw (.string nm), .sl none 1 LS, .sl none 5 KS], .box 25 [.raw (.int .i64 0), .raw (.int .i64 0), .raw (.string ⟨#[]⟩), .raw (.slice none 0 0), .raw (.slice none 0 0)]] ++ [c]) := fun e c => by
    have := hQ c
    rwa [decide_eq_true e] at this
  have hno : s ≠ nm → ∀ c, Q (.raw (.bool false)) ([.box 25 [.raw (.int .i64 k), .raw (.int .i64 n), .raw (.string nm), .sl none 1 LS, .sl none 5 KS], .box 25 [.raw (.int .i64 0), .raw (.int .i64 0), .raw (.string ⟨#[]⟩), .raw (.slice none 0 0), .raw (.slice none 0 0)]] ++ [c]) := fun e c => by
    have := hQ c
    rwa [decide_eq_false e] at this
  clear hQ
  cbv
  (repeat'((first|(apply zS;kernel_rfl)|(apply zD;decide +kernel)|(apply zE;decide +kernel)|(apply zF;decide +kernel)|(apply zL;decide +kernel)|(apply zM;decide +kernel)|(apply zN;intros)|(apply zO;intros)|(apply zT;omega)|(apply zU;omega)|(apply zP;omega;intros)|(apply zQ;omega;intros)|apply zR);cbv))
  refine BinK.seql ?_ ?_ <;> intro he
  · have hyes := hyes he
    cbv
    (repeat'((first|(apply zS;kernel_rfl)|(apply zD;decide +kernel)|(apply zE;decide +kernel)|(apply zF;decide +kernel)|(apply zL;decide +kernel)|(apply zM;decide +kernel)|(apply zN;intros)|(apply zO;intros)|(apply zT;omega)|(apply zU;omega)|(apply zP;omega;intros)|(apply zQ;omega;intros)|apply zR);cbv))
    exact ⟨hyes _⟩
  · have hno := hno he
    cbv
    (repeat'((first|(apply zS;kernel_rfl)|(apply zD;decide +kernel)|(apply zE;decide +kernel)|(apply zF;decide +kernel)|(apply zL;decide +kernel)|(apply zM;decide +kernel)|(apply zN;intros)|(apply zO;intros)|(apply zT;omega)|(apply zU;omega)|(apply zP;omega;intros)|(apply zQ;omega;intros)|apply zR);cbv))
    exact ⟨hno _⟩
theorem nodeH_idb (t : Ty5) : (nodeH t).all (cellIdb 2) = true := by
  obtain ⟨k, n, nm, ls, ks⟩ := t
  simp [nodeH, tyF, tyD, leavesD, zeroF, cellIdb, idbL, idb, strs_idb ls, tys_idb ks]
theorem put11_cw (q : Bd) (t : Ty5) : CW (TT ()) 66 [bnD q, .bx 0 0] (nodeH t) fun d h' => d = .raw (.bool (decide (q.1 = match t with | .mk _ _ nm _ _ => nm))) ∧ h' = nodeH t := by
  obtain ⟨k, n, nm, ls, ks⟩ := t
  have c : CW (TT ()) 66 [bnD q, .bx 0 0] (nodeH (.mk k n nm ls ks)) fun d h' => d = .raw (.bool (decide (q.1 = nm))) ∧ ∃ c, h' = nodeH (.mk k n nm ls ks) ++ [c] := wfun_ok (T := TT) (by kernel_rfl) (put11_run q k n nm ls ks _ fun c => ⟨rfl, c, rfl⟩)
  refine c.gc ?_
  rintro d h' ⟨rfl, c, rfl⟩
  have e : (nodeH (.mk k n nm ls ks) ++ [c]).take (nodeH (.mk k n nm ls ks)).length = nodeH (.mk k n nm ls ks) := List.take_left' rfl
  exact ⟨rfl, by rw [e]; exact nodeH_idb _, rfl, e⟩
end Go.Proofs.Ytbfmaicoefefaaa
