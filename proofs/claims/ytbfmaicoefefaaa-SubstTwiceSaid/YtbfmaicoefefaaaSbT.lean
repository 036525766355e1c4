/- limbeckref07: Put, All, Seal and Open. -/
import Derived.Test.YtbfmaicoefefaaaSbS
import Derived.Test.YtbfmaicoefefaaaPwRn
set_option linter.unusedSimpArgs false
set_option linter.unusedVariables false
namespace Go.Proofs.Ytbfmaicoefefaaa
open Go.RowKit Pv
set_option maxRecDepth 100000
/-- By its parts: what holds of a type whose parts all have it. -/
theorem ty_ind {P : Ty5 → Prop} (h : ∀ k n nm ls ks, (∀ t ∈ ks, P t) → P (.mk k n nm ls ks)) : ∀ t, P t := by
  intro t
  induction hz : szT t using Nat.strongRecOn generalizing t with
  | ind z ih =>
    obtain ⟨k, n, nm, ls, ks⟩ := t
    refine h k n nm ls ks fun t ht => ih (szT t) ?_ t rfl
    have := szL_mem ht
    rw [← hz]
    simp only [szT]
    omega
theorem sealed_cp (names : List ByteArray) (fr : Int) (hf0 : 0 ≤ fr) (hf1 : fr ≤ 1073741824) (hnl : names.length ≤ 140737488355328) (hns : ∀ u ∈ names, u.size ≤ maxLen) : ∀ t : Ty5, nodesT t ≤ 1000000 → CP (TT ()) 74 [tyD t, .sl none 1 (names.map strD), .raw (.int .i64 fr)] (· = tyD (sealT names fr t)) :=
  ty_ind fun k n nm ls ks ih hn => by
    have hkn := nodesL_len ks
    simp only [nodesT] at hn
    exact c4_runW (ty_pure _) fun Q hQ => sealed_run names fr hf0 hf1 hnl hns k n nm ls ks (by omega) (fun t ht => ih t ht (by have := nodesL_mem ht; omega)) Q hQ
theorem opened_cp (fr : Int) (l : List Ty5) (hf0 : 0 ≤ fr) (hf1 : fr ≤ 1073741824) (hll : l.length ≤ 140737488355328) : ∀ t : Ty5, rngT t → nodesT t ≤ 1000000 → CP (TT ()) 71 [tyD t, .raw (.int .i64 fr), .sl none 5 (tysD l)] (· = tyD (openT fr l t)) :=
  ty_ind fun k n nm ls ks ih hr hn => by
    have hkn := nodesL_len ks
    simp only [nodesT] at hn
    exact c4_runW (ty_pure _) fun Q hQ => opened_run fr l hf0 hf1 hll k n nm ls ks hr.1.2 (by omega) (fun t ht => ih t ht (rngL_mem hr.2 t ht) (by have := nodesL_mem ht; omega)) Q hQ
/-! ### fitting -/
theorem fit_dec (t : Ty5) : decide (nodesT t ≤ 300) = fitB t := rfl
set_option maxRecDepth 20000 in
theorem fitting_cp (t : Ty5) (ho : okT t) (hn : nodesT t ≤ 1000000) : CP (TT ()) 68 [tyD t] (· = .tup [tyD (fitT t), .raw (.bool (fitB t))]) := by
  have c := fitsq_cp t ho hn
  rw [fit_dec] at c
  have hp := ty_pure t
  refine c4_runW (by simp [pureD, pureL, ty_pure]) fun Q hQ => ?_
  have h0 : fitB t = false → ∀ h', Q (.tup [.agg [.raw (.int .i64 0), .raw (.int .i64 0), .raw (.string ⟨#[]⟩), .raw (.slice none 0 0), .raw (.slice none 0 0)], .raw (.bool false)]) h' := fun h h' => hQ _ h' (by
    unfold fitT
    rw [h]
    exact .tup (.cons (.agg (.cons (.refl _) (.cons (.refl _) (.cons (.refl _) (.cons (nil_any 1) (.cons (nil_any 5) .nil)))))) (.refl _)))
  have h1 : fitB t = true → ∀ h', Q (.tup [tyD t, .raw (.bool true)]) h' := fun h h' => hQ _ h' (by
    unfold fitT
    rw [h]
    exact .refl _)
  clear hQ
  generalize fitB t = b at c h0 h1
  obtain ⟨k, n, nm, L, K, f0, _, _⟩ := c4_node t
  rw [f0] at c hp h1 ⊢
  cbv
  (repeat'((first|(apply zS;kernel_rfl)|(apply zD;decide +kernel)|(apply zE;decide +kernel)|(apply zF;decide +kernel)|(apply zL;decide +kernel)|(apply zM;decide +kernel)|(apply zN;intros)|(apply zO;intros)|(apply zT;omega)|(apply zU;omega)|(apply zP;omega;intros)|(apply zQ;omega;intros)|apply zR);cbv))
  refine .one c (cons_pure hp rfl) rfl ?_
  rcases b with _ | _
  · cbv
    (repeat'((first|(apply zS;kernel_rfl)|(apply zD;decide +kernel)|(apply zE;decide +kernel)|(apply zF;decide +kernel)|(apply zL;decide +kernel)|(apply zM;decide +kernel)|(apply zN;intros)|(apply zO;intros)|(apply zT;omega)|(apply zU;omega)|(apply zP;omega;intros)|(apply zQ;omega;intros)|apply zR);cbv))
    exact ⟨h0 rfl _⟩
  · cbv
    (repeat'((first|(apply zS;kernel_rfl)|(apply zD;decide +kernel)|(apply zE;decide +kernel)|(apply zF;decide +kernel)|(apply zL;decide +kernel)|(apply zM;decide +kernel)|(apply zN;intros)|(apply zO;intros)|(apply zT;omega)|(apply zU;omega)|(apply zP;omega;intros)|(apply zQ;omega;intros)|apply zR);cbv))
    exact ⟨h1 rfl _⟩
/-! ### The four -/
def fitP (t : Ty5) : D := .tup [tyD (fitT t), .raw (.bool (fitB t))]
theorem fitP_pure (t : Ty5) : pureD (fitP t) = some (fitP t) := by simp [fitP, pureD, pureL, ty_pure]
set_option maxRecDepth 20000 in
theorem rput_cp (m : List Bd) (hm : m.length ≤ 140737488355328) (hmo : okB m) (t : Ty5) (ho : okT t) (hn : nodesT t ≤ 1000000) (hn2 : nodesT (putT m t) ≤ 1000000) : CP (TT ()) 38 [tyD t, .sl none 6 (bnsD m)] (· = fitP (putT m t)) := by
  have c1 := plain_cp m hm t hn
  have c2 := fitting_cp (putT m t) (put_ok hmo ho) hn2
  have hp := ty_pure t
  have hq := ty_pure (putT m t)
  have hr := fitP_pure (putT m t)
  unfold fitP at hr ⊢
  have hB := bns_pure m
  generalize bnsD m = BS at c1 hB ⊢
  generalize fitB (putT m t) = b at c2 hr ⊢
  generalize fitT (putT m t) = v at c2 hr ⊢
  generalize putT m t = u at c1 c2 hq ⊢
  obtain ⟨k, n, nm, L, K, f0, _, _⟩ := c4_node t
  obtain ⟨k', n', nm', L', K', f1, _, _⟩ := c4_node u
  obtain ⟨k2, n2, nm2, L2, K2, f2, _, _⟩ := c4_node v
  rw [f0] at c1 hp ⊢
  rw [f1] at c1 c2 hq
  rw [f2] at c2 hr ⊢
  refine c4_runP fun Q hQ => ?_
  cbv
  (repeat'((first|(apply zS;kernel_rfl)|(apply zD;decide +kernel)|(apply zE;decide +kernel)|(apply zF;decide +kernel)|(apply zL;decide +kernel)|(apply zM;decide +kernel)|(apply zN;intros)|(apply zO;intros)|(apply zT;omega)|(apply zU;omega)|(apply zP;omega;intros)|(apply zQ;omega;intros)|apply zR);cbv))
  refine .one c1 (cons_pure hp (by simp [pureL, pureD, hB])) hq ?_
  cbv
  (repeat'((first|(apply zS;kernel_rfl)|(apply zD;decide +kernel)|(apply zE;decide +kernel)|(apply zF;decide +kernel)|(apply zL;decide +kernel)|(apply zM;decide +kernel)|(apply zN;intros)|(apply zO;intros)|(apply zT;omega)|(apply zU;omega)|(apply zP;omega;intros)|(apply zQ;omega;intros)|apply zR);cbv))
  refine .one c2 (cons_pure hq rfl) hr ?_
  cbv
  (repeat'((first|(apply zS;kernel_rfl)|(apply zD;decide +kernel)|(apply zE;decide +kernel)|(apply zF;decide +kernel)|(apply zL;decide +kernel)|(apply zM;decide +kernel)|(apply zN;intros)|(apply zO;intros)|(apply zT;omega)|(apply zU;omega)|(apply zP;omega;intros)|(apply zQ;omega;intros)|apply zR);cbv))
  exact ⟨hQ _ _ hr⟩
set_option maxRecDepth 20000 in
theorem rseal_cp (names : List ByteArray) (fr : Int) (hnl : names.length ≤ 1000000) (hns : ∀ u ∈ names, u.size ≤ maxLen) (t : Ty5) (hn : nodesT t ≤ 1000000) :
    CP (TT ()) 46 [tyD t, .sl none 1 (names.map strD), .raw (.int .i64 fr)] (· = tyD (if 0 ≤ fr ∧ fr + names.length ≤ 1073741824 then sealT names fr t else t)) := by
  have c1 := fun h0 h1 => sealed_cp names fr h0 h1 (by omega) hns t hn
  have hp := ty_pure t
  have hq := ty_pure (sealT names fr t)
  have hN := strs_pure names
  have hNl : (names.map strD).length = names.length := List.length_map ..
  obtain ⟨z, hz0, hz1, hz2⟩ : ∃ z : Int, (names.length : Int) = z ∧ 0 ≤ z ∧ z.toNat = names.length := ⟨_, rfl, by omega, by omega⟩
  rw [hz0]
  clear hz0
  refine c4_runW (ty_pure _) fun Q hQ => ?_
  have h0 : ¬ (0 ≤ fr ∧ fr + z ≤ 1073741824) → ∀ h', Q (tyD t) h' := fun h h' => hQ _ h' (by rw [if_neg h]; exact .refl _)
  have h1 : (0 ≤ fr ∧ fr + z ≤ 1073741824) → ∀ h', Q (tyD (sealT names fr t)) h' := fun h h' => hQ _ h' (by rw [if_pos h]; exact .refl _)
  clear hQ
  generalize names.map strD = NS at c1 hN hNl ⊢
  generalize sealT names fr t = u at c1 hq h1
  obtain ⟨k, n, nm, L, K, f0, _, _⟩ := c4_node t
  obtain ⟨k', n', nm', L', K', f1, _, _⟩ := c4_node u
  rw [f0] at hp h0 ⊢
  simp only [f0] at c1
  rw [f1] at hq h1
  simp only [f1] at c1
  cbv
  (repeat'((first|(apply zS;kernel_rfl)|(apply zD;decide +kernel)|(apply zE;decide +kernel)|(apply zF;decide +kernel)|(apply zL;decide +kernel)|(apply zM;decide +kernel)|(apply zN;intros)|(apply zO;intros)|(apply zT;omega)|(apply zU;omega)|(apply zP;omega;intros)|(apply zQ;omega;intros)|apply zR);cbv))
  refine BinK.lss ?_ ?_ <;> intro hlt <;> cbv <;> (repeat'((first|(apply zS;kernel_rfl)|(apply zD;decide +kernel)|(apply zE;decide +kernel)|(apply zF;decide +kernel)|(apply zL;decide +kernel)|(apply zM;decide +kernel)|(apply zN;intros)|(apply zO;intros)|(apply zT;omega)|(apply zU;omega)|(apply zP;omega;intros)|(apply zQ;omega;intros)|apply zR);cbv))
  · exact ⟨h0 (by omega) _⟩
  refine BinK.gtr ?_ ?_ <;> intro hgt <;> cbv <;> (repeat'((first|(apply zS;kernel_rfl)|(apply zD;decide +kernel)|(apply zE;decide +kernel)|(apply zF;decide +kernel)|(apply zL;decide +kernel)|(apply zM;decide +kernel)|(apply zN;intros)|(apply zO;intros)|(apply zT;omega)|(apply zU;omega)|(apply zP;omega;intros)|(apply zQ;omega;intros)|apply zR);cbv))
  · exact ⟨h0 (by omega) _⟩
  have c1 := c1 (by omega) (by omega)
  refine .one c1 (cons_pure hp (by simp [pureL, pureD, hN])) hq ?_
  cbv
  (repeat'((first|(apply zS;kernel_rfl)|(apply zD;decide +kernel)|(apply zE;decide +kernel)|(apply zF;decide +kernel)|(apply zL;decide +kernel)|(apply zM;decide +kernel)|(apply zN;intros)|(apply zO;intros)|(apply zT;omega)|(apply zU;omega)|(apply zP;omega;intros)|(apply zQ;omega;intros)|apply zR);cbv))
  exact ⟨h1 (by omega) _⟩
set_option maxRecDepth 20000 in
theorem ropen_cp (fr : Int) (l : List Ty5) (hll : l.length ≤ 140737488355328) (hlo : okT.okL l) (t : Ty5) (ho : okT t) (hr : rngT t) (hn : nodesT t ≤ 1000000) (hn2 : nodesT (openT fr l t) ≤ 1000000) :
    CP (TT ()) 44 [tyD t, .raw (.int .i64 fr), .sl none 5 (tysD l)] (· = fitP (if 0 ≤ fr ∧ fr ≤ 1073741824 then openT fr l t else t)) := by
  have c1 := fun h0 h1 => opened_cp fr l h0 h1 hll t hr hn
  have c2 := fitting_cp (openT fr l t) (open_ok hlo ho) hn2
  have c3 := fitting_cp t ho hn
  have hp := ty_pure t
  have hq := ty_pure (openT fr l t)
  have hr1 := fitP_pure (openT fr l t)
  have hr3 := fitP_pure t
  have hB := tys_pure l
  refine c4_runP (d0 := fitP (if 0 ≤ fr ∧ fr ≤ 1073741824 then openT fr l t else t)) fun Q hQ => ?_
  have h0 : ¬ (0 ≤ fr ∧ fr ≤ 1073741824) → ∀ h', Q (fitP t) h' := fun h h' => hQ _ h' (by rw [if_neg h]; exact hr3)
  have h1 : (0 ≤ fr ∧ fr ≤ 1073741824) → ∀ h', Q (fitP (openT fr l t)) h' := fun h h' => hQ _ h' (by rw [if_pos h]; exact hr1)
  clear hQ
  unfold fitP at hr1 hr3 h0 h1
  generalize tysD l = BS at c1 hB ⊢
  generalize fitB (openT fr l t) = b at c2 hr1 h1
  generalize fitT (openT fr l t) = v at c2 hr1 h1
  generalize openT fr l t = u at c1 c2 hq
  generalize fitB t = b' at c3 hr3 h0
  generalize fitT t = v' at c3 hr3 h0
  obtain ⟨k, n, nm, L, K, f0, _, _⟩ := c4_node t
  obtain ⟨k', n', nm', L', K', f1, _, _⟩ := c4_node u
  obtain ⟨k2, n2, nm2, L2, K2, f2, _, _⟩ := c4_node v
  obtain ⟨k3, n3, nm3, L3, K3, f3, _, _⟩ := c4_node v'
  simp only [f0, f1] at c1
  rw [f0] at c3 hp ⊢
  rw [f1] at c2 hq
  rw [f2] at c2 hr1 h1
  rw [f3] at c3 hr3 h0
  cbv
  (repeat'((first|(apply zS;kernel_rfl)|(apply zD;decide +kernel)|(apply zE;decide +kernel)|(apply zF;decide +kernel)|(apply zL;decide +kernel)|(apply zM;decide +kernel)|(apply zN;intros)|(apply zO;intros)|(apply zT;omega)|(apply zU;omega)|(apply zP;omega;intros)|(apply zQ;omega;intros)|apply zR);cbv))
  refine BinK.lss ?_ ?_ <;> intro hlt <;> cbv <;> (repeat'((first|(apply zS;kernel_rfl)|(apply zD;decide +kernel)|(apply zE;decide +kernel)|(apply zF;decide +kernel)|(apply zL;decide +kernel)|(apply zM;decide +kernel)|(apply zN;intros)|(apply zO;intros)|(apply zT;omega)|(apply zU;omega)|(apply zP;omega;intros)|(apply zQ;omega;intros)|apply zR);cbv))
  · refine .one c3 (cons_pure hp rfl) hr3 ?_
    cbv
    (repeat'((first|(apply zS;kernel_rfl)|(apply zD;decide +kernel)|(apply zE;decide +kernel)|(apply zF;decide +kernel)|(apply zL;decide +kernel)|(apply zM;decide +kernel)|(apply zN;intros)|(apply zO;intros)|(apply zT;omega)|(apply zU;omega)|(apply zP;omega;intros)|(apply zQ;omega;intros)|apply zR);cbv))
    exact ⟨h0 (by omega) _⟩
  refine BinK.gtr ?_ ?_ <;> intro hgt <;> cbv <;> (repeat'((first|(apply zS;kernel_rfl)|(apply zD;decide +kernel)|(apply zE;decide +kernel)|(apply zF;decide +kernel)|(apply zL;decide +kernel)|(apply zM;decide +kernel)|(apply zN;intros)|(apply zO;intros)|(apply zT;omega)|(apply zU;omega)|(apply zP;omega;intros)|(apply zQ;omega;intros)|apply zR);cbv))
  · refine .one c3 (cons_pure hp rfl) hr3 ?_
    cbv
    (repeat'((first|(apply zS;kernel_rfl)|(apply zD;decide +kernel)|(apply zE;decide +kernel)|(apply zF;decide +kernel)|(apply zL;decide +kernel)|(apply zM;decide +kernel)|(apply zN;intros)|(apply zO;intros)|(apply zT;omega)|(apply zU;omega)|(apply zP;omega;intros)|(apply zQ;omega;intros)|apply zR);cbv))
    exact ⟨h0 (by omega) _⟩
  have c1 := c1 (by omega) (by omega)
  refine .one c1 (cons_pure hp (by simp [pureL, pureD, hB])) hq ?_
  cbv
  (repeat'((first|(apply zS;kernel_rfl)|(apply zD;decide +kernel)|(apply zE;decide +kernel)|(apply zF;decide +kernel)|(apply zL;decide +kernel)|(apply zM;decide +kernel)|(apply zN;intros)|(apply zO;intros)|(apply zT;omega)|(apply zU;omega)|(apply zP;omega;intros)|(apply zQ;omega;intros)|apply zR);cbv))
  refine .one c2 (cons_pure hq rfl) hr1 ?_
  cbv
  (repeat'((first|(apply zS;kernel_rfl)|(apply zD;decide +kernel)|(apply zE;decide +kernel)|(apply zF;decide +kernel)|(apply zL;decide +kernel)|(apply zM;decide +kernel)|(apply zN;intros)|(apply zO;intros)|(apply zT;omega)|(apply zU;omega)|(apply zP;omega;intros)|(apply zQ;omega;intros)|apply zR);cbv))
  exact ⟨h1 (by omega) _⟩
end Go.Proofs.Ytbfmaicoefefaaa
