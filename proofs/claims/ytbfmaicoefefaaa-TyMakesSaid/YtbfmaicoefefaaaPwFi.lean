/- Field and Fun of both sides, as data; what the law of records calls. -/
import Derived.Test.YtbfmaicoefefaaaPwY
import Derived.Test.YtbfmaicoefefaaaPwRc
import Derived.Test.YtbfmaicoefefaaaPwFr
import Derived.Test.YtbfmaicoefefaaaTyFd
import Derived.Test.YtbfmaicoefefaaaTyTd
set_option linter.unusedSimpArgs false
set_option linter.unusedVariables false
namespace Go.Proofs.Ytbfmaicoefefaaa
open Go.RowKit Pv Go.Sort
set_option maxRecDepth 100000
theorem index_cp (ls : List ByteArray) (s : ByteArray) (hs : ∀ u ∈ ls, u.size ≤ maxLen) : CP (TT ()) 61 [.sl none 1 (ls.map strD), .raw (.string s)] (· = .raw (.int .i64 (placeI ls s))) :=
  cp_raw (callable_at Try.func61 (by kernel_rfl) rfl) fun S w args r => by
    obtain ⟨v, v', rfl, h, h'⟩ := rdL_two r
    simp only [Pv.Rd] at h'
    subst h'
    exact index_below v ls s w (strs_in h hs)
set_option maxRecDepth 20000 in
set_option maxHeartbeats 4000000 in
theorem fieldp_run (s : ByteArray) (t : Ty5) (ho : okT t) (Q : D → H → Prop) (hQ : ∀ d h', FieldQ s t d h' → Q d h') : wfun TT 31 [tyD t, .raw (.string s)] [] Q := by
  obtain ⟨k, n, nm, ls, ks⟩ := t
  obtain ⟨p, hp⟩ : ∃ p, p = placeI ls s := ⟨_, rfl⟩
  obtain ⟨hf1, hf2, hf3, hf4⟩ := field_cases n nm ks (k := k) hp
  have hc := index_cp ls s ho.2.1
  rw [← hp] at hc
  simp only [tyD]
  have hLp := strs_pure ls
  generalize ls.map strD = LS at hLp hc ⊢
  generalize hKS : tysD ks = KS
  have hKl : KS.length = ks.length := by rw [← hKS]; simp [tysD_map]
  clear hp ho
  cbv
  (repeat'((first|(apply zS;kernel_rfl)|(apply zD;decide +kernel)|(apply zE;decide +kernel)|(apply zF;decide +kernel)|(apply zL;decide +kernel)|(apply zM;decide +kernel)|(apply zN;intros)|(apply zO;intros)|(apply zT;omega)|(apply zU;omega)|(apply zP;omega;intros)|(apply zQ;omega;intros)|apply zR);cbv))
  refine CallK.one (d := .raw (.int .i64 p)) hc (by simp [pureL, pureD, hLp]) rfl ?_
  cbv
  (repeat'((first|(apply zS;kernel_rfl)|(apply zD;decide +kernel)|(apply zE;decide +kernel)|(apply zF;decide +kernel)|(apply zL;decide +kernel)|(apply zM;decide +kernel)|(apply zN;intros)|(apply zO;intros)|(apply zT;omega)|(apply zU;omega)|(apply zP;omega;intros)|(apply zQ;omega;intros)|apply zR);cbv))
  refine BinK.neq ?_ ?_ <;> intro hk <;> cbv <;> (repeat'((first|(apply zS;kernel_rfl)|(apply zD;decide +kernel)|(apply zE;decide +kernel)|(apply zF;decide +kernel)|(apply zL;decide +kernel)|(apply zM;decide +kernel)|(apply zN;intros)|(apply zO;intros)|(apply zT;omega)|(apply zU;omega)|(apply zP;omega;intros)|(apply zQ;omega;intros)|apply zR);cbv))
  · exact ⟨hQ _ _ (field_no (hf1 hk) _)⟩
  refine BinK.lss ?_ ?_ <;> intro h0 <;> cbv <;> (repeat'((first|(apply zS;kernel_rfl)|(apply zD;decide +kernel)|(apply zE;decide +kernel)|(apply zF;decide +kernel)|(apply zL;decide +kernel)|(apply zM;decide +kernel)|(apply zN;intros)|(apply zO;intros)|(apply zT;omega)|(apply zU;omega)|(apply zP;omega;intros)|(apply zQ;omega;intros)|apply zR);cbv))
  · exact ⟨hQ _ _ (field_no (hf2 h0) _)⟩
  refine BinK.geq ?_ ?_ <;> intro h1 <;> cbv <;> (repeat'((first|(apply zS;kernel_rfl)|(apply zD;decide +kernel)|(apply zE;decide +kernel)|(apply zF;decide +kernel)|(apply zL;decide +kernel)|(apply zM;decide +kernel)|(apply zN;intros)|(apply zO;intros)|(apply zT;omega)|(apply zU;omega)|(apply zP;omega;intros)|(apply zQ;omega;intros)|apply zR);cbv))
  · exact ⟨hQ _ _ (field_no (hf3 h0 (by omega)) _)⟩
  have hlt : p.toNat < ks.length := by omega
  have hx := hf4 hk h0 hlt
  have hget : ks[p.toNat]? = some (kAt ks p.toNat) := by rw [List.getElem?_eq_getElem hlt, kAt_get hlt]
  have hK : KS[p.toNat]? = some (tyD (kAt ks p.toNat)) := by rw [← hKS, tysD_map, List.getElem?_map, hget]; rfl
  generalize kAt ks p.toNat = u at hx hK
  have hQ2 : ∀ h', Q (.tup [tyD u, .raw (.bool true)]) h' := fun h' => hQ _ _ (by unfold FieldQ; rw [hx]; exact .refl _)
  obtain ⟨tk, tn, tm, tl, tks⟩ := u
  simp only [tyD] at hK hQ2
  generalize tl.map strD = TL at hK hQ2
  generalize tysD tks = TK at hK hQ2
  refine IdxK.intro h0 hK ?_
  cbv
  (repeat'((first|(apply zS;kernel_rfl)|(apply zD;decide +kernel)|(apply zE;decide +kernel)|(apply zF;decide +kernel)|(apply zL;decide +kernel)|(apply zM;decide +kernel)|(apply zN;intros)|(apply zO;intros)|(apply zT;omega)|(apply zU;omega)|(apply zP;omega;intros)|(apply zQ;omega;intros)|apply zR);cbv))
  exact ⟨hQ2 _⟩
theorem fieldp_cp (s : ByteArray) (t : Ty5) (ho : okT t) : CP (TT ()) 31 [tyD t, .raw (.string s)] (· = .tup [tyD (fieldT s t).1, .raw (.bool (fieldT s t).2)]) :=
  ((wfun_ok (T := TT) (by kernel_rfl) (fieldp_run s t ho _ fun _ _ h => h)).weaken (R := fun d _ => d = .tup [tyD (fieldT s t).1, .raw (.bool (fieldT s t).2)]) fun d h' h => ⟨_, h, rfl⟩).cp fun d h' h => ⟨d, by rw [h]; simp [pureD, pureL, ty_pure], h⟩
set_option maxRecDepth 20000 in
set_option maxHeartbeats 4000000 in
theorem funp_run (a b : Ty5) (Q : D → H → Prop) (hQ : ∀ d h', Wk d (tyD (.mk 7 0 ⟨#[]⟩ [] [a, b])) → Q d h') : wfun TT 33 [tyD a, tyD b] [] Q := by
  have hQ2 : ∀ h', Q (.agg [.raw (.int .i64 7), .raw (.int .i64 0), .raw (.string ⟨#[]⟩), .raw (.slice none 0 0), .sl none 5 [tyD a, tyD b]]) h' := fun h' => hQ _ _ (.agg (.cons (.refl _) (.cons (.refl _) (.cons (.refl _) (.cons (nil_any 1) (.cons (.refl _) .nil))))))
  obtain ⟨k, n, nm, ls, ks⟩ := a
  obtain ⟨k', n', nm', ls', ks'⟩ := b
  simp only [tyD] at hQ2 ⊢
  generalize ls.map strD = LS at hQ2 ⊢
  generalize tysD ks = KS at hQ2 ⊢
  generalize ls'.map strD = LS' at hQ2 ⊢
  generalize tysD ks' = KS' at hQ2 ⊢
  cbv
  (repeat'((first|(apply zS;kernel_rfl)|(apply zD;decide +kernel)|(apply zE;decide +kernel)|(apply zF;decide +kernel)|(apply zL;decide +kernel)|(apply zM;decide +kernel)|(apply zN;intros)|(apply zO;intros)|(apply zT;omega)|(apply zU;omega)|(apply zP;omega;intros)|(apply zQ;omega;intros)|apply zR);cbv))
  exact ⟨hQ2 _⟩
theorem funp_cp (a b : Ty5) : CP (TT ()) 33 [tyD a, tyD b] (· = tyD (.mk 7 0 ⟨#[]⟩ [] [a, b])) :=
  ((wfun_ok (T := TT) (by kernel_rfl) (funp_run a b _ fun _ _ h => h)).weaken (R := fun d _ => d = tyD (.mk 7 0 ⟨#[]⟩ [] [a, b])) fun d h' h => ⟨_, h, rfl⟩).cp fun d h' h => ⟨d, by rw [h]; simp [ty_pure], h⟩
set_option maxRecDepth 20000 in
set_option maxHeartbeats 4000000 in
theorem funr_run (a b : Ty5) (Q : D → H → Prop) (hQ : ∀ d h', Wk d (tyD (.mk 7 0 ⟨#[]⟩ [] [a, b])) → Q d h') : wfun TT 34 [tyD a, tyD b] [] Q := by
  have hQ2 : ∀ h', Q (.agg [.raw (.int .i64 7), .raw (.int .i64 0), .raw (.string ⟨#[]⟩), .raw (.slice none 0 0), .sl none 5 [tyD a, tyD b]]) h' := fun h' => hQ _ _ (.agg (.cons (.refl _) (.cons (.refl _) (.cons (.refl _) (.cons (nil_any 1) (.cons (.refl _) .nil))))))
  obtain ⟨k, n, nm, ls, ks⟩ := a
  obtain ⟨k', n', nm', ls', ks'⟩ := b
  simp only [tyD] at hQ2 ⊢
  generalize ls.map strD = LS at hQ2 ⊢
  generalize tysD ks = KS at hQ2 ⊢
  generalize ls'.map strD = LS' at hQ2 ⊢
  generalize tysD ks' = KS' at hQ2 ⊢
  cbv
  (repeat'((first|(apply zS;kernel_rfl)|(apply zD;decide +kernel)|(apply zE;decide +kernel)|(apply zF;decide +kernel)|(apply zL;decide +kernel)|(apply zM;decide +kernel)|(apply zN;intros)|(apply zO;intros)|(apply zT;omega)|(apply zU;omega)|(apply zP;omega;intros)|(apply zQ;omega;intros)|apply zR);cbv))
  exact ⟨hQ2 _⟩
theorem funr_cp (a b : Ty5) : CP (TT ()) 34 [tyD a, tyD b] (· = tyD (.mk 7 0 ⟨#[]⟩ [] [a, b])) :=
  ((wfun_ok (T := TT) (by kernel_rfl) (funr_run a b _ fun _ _ h => h)).weaken (R := fun d _ => d = tyD (.mk 7 0 ⟨#[]⟩ [] [a, b])) fun d h' h => ⟨_, h, rfl⟩).cp fun d h' h => ⟨d, by rw [h]; simp [ty_pure], h⟩
/-! ### What comes to a truth or a number -/
theorem same_cp (a b : Ty5) (ha : okT a) (hb : okT b) : CP (TT ()) 27 [tyD a, tyD b] (· = .raw (.bool (sameT a b))) :=
  cp_raw (callable_at Try.func27 (by kernel_rfl) rfl) fun S w args r => by
    obtain ⟨v, v', rfl, h, h'⟩ := rdL_two r
    obtain ⟨v0, v1, v2, v3, v4, rfl, hT⟩ := ty_in a ha h
    obtain ⟨u0, u1, u2, u3, u4, rfl, hU⟩ := ty_in b hb h'
    exact rsameTy_any _ a b _ _ _ _ _ _ _ _ _ _ w (Nat.le_refl _) hT hU
theorem much_cp (a : Ty5) (ha : okT a) : CP (TT ()) 11 [tyD a] fun d => ∃ n : Int, d = .raw (.int .i64 n) := by
  refine ⟨callable_at Try.func11 (by kernel_rfl) rfl, fun S w args hS r => ?_⟩
  obtain ⟨v, rfl, h⟩ := rdL_one r
  obtain ⟨v0, v1, v2, v3, v4, rfl, hT⟩ := ty_in a ha h
  refine (rmuch_some _ a _ _ _ _ _ w (Nat.le_refl _) hT).mono ?_
  rintro e w' ⟨⟨n, rfl⟩, hb⟩
  exact ⟨_, S, _, rfl, ⟨n, rfl⟩, hb, fun _ _ h => h, fun b o hs => ⟨Nat.lt_of_lt_of_le (hS b o hs) hb.size, fun _ => hs⟩, rfl⟩
theorem kids_in {C : Cx} {w : World} {ks : List Ty5} {v : Value} (h : Pv.Rd C w (.sl none 5 (tysD ks)) v) (ho : okT.okL ks) : KidsAt w v ks ∧ ks.length ≤ maxLen := by
  obtain ⟨⟨a, cap, rfl, hc1, hc2⟩, hx, _⟩ := h
  have hl : (tysD ks).length = ks.length := by simp [tysD_map]
  rw [hl] at hc1 hx ⊢
  refine ⟨?_, by omega⟩
  by_cases h0 : 0 < ks.length
  · obtain ⟨b, off, cap', hv, _, hr⟩ := hx h0
    simp at hv
    obtain ⟨rfl, rfl⟩ := hv
    exact .inr ⟨b, off, cap, rfl, tys_in ks b off ho hr⟩
  · have : ks = [] := List.eq_nil_of_length_eq_zero (by omega)
    subst this
    exact .inl ⟨a, cap, rfl, rfl⟩
theorem few_cp (ss : List ByteArray) (ks : List Ty5) (hs : ∀ s ∈ ss, s.size ≤ maxLen) (ho : okT.okL ks) : CP (TT ()) 28 [.sl none 1 (ss.map strD), .sl none 5 (tysD ks)] fun d => ∃ b : Bool, d = .raw (.bool b) ∧ (b = true → ss.length ≤ 60 ∧ ks.length ≤ 60) := by
  refine ⟨callable_at Try.func28 (by kernel_rfl) rfl, fun S w args hS r => ?_⟩
  obtain ⟨v, v', rfl, h, h'⟩ := rdL_two r
  obtain ⟨hk, hkm⟩ := kids_in h' ho
  refine (few_any v v' ss ks w (strs_in h hs) hk hkm).mono ?_
  rintro e w' ⟨hf, hb⟩
  obtain ⟨b, rfl, h2⟩ := hf.out
  exact ⟨_, S, _, rfl, ⟨b, rfl, h2⟩, hb, fun _ _ h => h, fun b o hs => ⟨Nat.lt_of_lt_of_le (hS b o hs) hb.size, fun _ => hs⟩, rfl⟩
end Go.Proofs.Ytbfmaicoefefaaa
