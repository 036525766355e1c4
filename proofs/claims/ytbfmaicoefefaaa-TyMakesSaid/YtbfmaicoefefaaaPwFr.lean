/- Field of the document's answers, as data. -/
import Derived.Test.YtbfmaicoefefaaaPwY
import Derived.Test.YtbfmaicoefefaaaPwRc
import Derived.Test.YtbfmaicoefefaaaTyIs
set_option linter.unusedSimpArgs false
set_option linter.unusedVariables false
namespace Go.Proofs.Ytbfmaicoefefaaa
open Go.RowKit Pv
set_option maxRecDepth 100000
def FieldQ (s : ByteArray) (t : Ty5) : D → H → Prop := fun d _ => Wk d (.tup [tyD (fieldT s t).1, .raw (.bool (fieldT s t).2)])
theorem field_no {s : ByteArray} {t : Ty5} (h : fieldT s t = (ty0, false)) (h' : H) : FieldQ s t (.tup [.agg [.raw (.int .i64 0), .raw (.int .i64 0), .raw (.string ⟨#[]⟩), .raw (.slice none 0 0), .raw (.slice none 0 0)], .raw (.bool false)]) h' := by
  unfold FieldQ
  rw [h]
  exact .tup (.cons (.agg (.cons (.refl _) (.cons (.refl _) (.cons (.refl _) (.cons (nil_any 1) (.cons (nil_any 5) .nil)))))) (.cons (.refl _) .nil))
theorem field_cases {s : ByteArray} {k : Int} (n : Int) (nm : ByteArray) {ls : List ByteArray} (ks : List Ty5) {p : Int} (hp : p = placeI ls s) :
    (k ≠ 8 → fieldT s (.mk k n nm ls ks) = (ty0, false)) ∧ (p < 0 → fieldT s (.mk k n nm ls ks) = (ty0, false)) ∧ (0 ≤ p → ks.length ≤ p.toNat → fieldT s (.mk k n nm ls ks) = (ty0, false)) ∧ (k = 8 → 0 ≤ p → p.toNat < ks.length → fieldT s (.mk k n nm ls ks) = (kAt ks p.toNat, true)) := by
  have h : fieldT s (.mk k n nm ls ks) = if k = 8 ∧ 0 ≤ p ∧ p < (ks.length : Int) then (kAt ks p.toNat, true) else (ty0, false) := by subst hp; rfl
  refine ⟨fun h1 => ?_, fun h1 => ?_, fun h1 h2 => ?_, fun h1 h2 h3 => ?_⟩
  · rw [h, if_neg (fun h2 => h1 h2.1)]
  · rw [h, if_neg (fun h2 => by omega)]
  · rw [h, if_neg (fun h2 => by omega)]
  · rw [h, if_pos ⟨h1, h2, by omega⟩]
set_option maxRecDepth 20000 in
set_option maxHeartbeats 4000000 in
theorem fieldr_run (s : ByteArray) (t : Ty5) (ho : okT t) (Q : D → H → Prop) (hQ : ∀ d h', FieldQ s t d h' → Q d h') : wfun TT 32 [tyD t, .raw (.string s)] [] Q := by
  obtain ⟨k, n, nm, ls, ks⟩ := t
  obtain ⟨p, hp⟩ : ∃ p, p = placeI ls s := ⟨_, rfl⟩
  obtain ⟨hf1, hf2, hf3, hf4⟩ := field_cases n nm ks (k := k) hp
  have hc := place_cp ls s ho.2.1
  rw [← hp] at hc
  simp only [tyD]
  have hLp := strs_pure ls
  generalize ls.map strD = LS at hLp hc ⊢
  generalize hKS : tysD ks = KS
  have hKl : KS.length = ks.length := by rw [← hKS]; simp [tysD_map]
  clear hp ho
  cbv
  (repeat'((first|(apply zS;kernel_rfl)|(apply zD;decide +kernel)|(apply zE;decide +kernel)|(apply zF;decide +kernel)|(apply zL;decide +kernel)|(apply zM;decide +kernel)|(apply zN;intros)|(apply zO;intros)|(apply zT;omega)|(apply zU;omega)|(apply zP;omega;intros)|(apply zQ;omega;intros)|apply zR);cbv))
  refine CallK.one (d := .raw (.int .i64 p)) hc (by simp [pureL, pureD, hLp]) rfl ?_
  cbv
  (repeat'((first|(apply zS;kernel_rfl)|(apply zD;decide +kernel)|(apply zE;decide +kernel)|(apply zF;decide +kernel)|(apply zL;decide +kernel)|(apply zM;decide +kernel)|(apply zN;intros)|(apply zO;intros)|(apply zT;omega)|(apply zU;omega)|(apply zP;omega;intros)|(apply zQ;omega;intros)|apply zR);cbv))
  refine BinK.neq ?_ ?_ <;> intro hk <;> cbv <;> (repeat'((first|(apply zS;kernel_rfl)|(apply zD;decide +kernel)|(apply zE;decide +kernel)|(apply zF;decide +kernel)|(apply zL;decide +kernel)|(apply zM;decide +kernel)|(apply zN;intros)|(apply zO;intros)|(apply zT;omega)|(apply zU;omega)|(apply zP;omega;intros)|(apply zQ;omega;intros)|apply zR);cbv))
  · exact ⟨hQ _ _ (field_no (hf1 hk) _)⟩
  refine BinK.lss ?_ ?_ <;> intro h0 <;> cbv <;> (repeat'((first|(apply zS;kernel_rfl)|(apply zD;decide +kernel)|(apply zE;decide +kernel)|(apply zF;decide +kernel)|(apply zL;decide +kernel)|(apply zM;decide +kernel)|(apply zN;intros)|(apply zO;intros)|(apply zT;omega)|(apply zU;omega)|(apply zP;omega;intros)|(apply zQ;omega;intros)|apply zR);cbv))
  · exact ⟨hQ _ _ (field_no (hf2 h0) _)⟩
  refine BinK.geq ?_ ?_ <;> intro h1 <;> cbv <;> (repeat'((first|(apply zS;kernel_rfl)|(apply zD;decide +kernel)|(apply zE;decide +kernel)|(apply zF;decide +kernel)|(apply zL;decide +kernel)|(apply zM;decide +kernel)|(apply zN;intros)|(apply zO;intros)|(apply zT;omega)|(apply zU;omega)|(apply zP;omega;intros)|(apply zQ;omega;intros)|apply zR);cbv))
  · exact ⟨hQ _ _ (field_no (hf3 h0 (by omega)) _)⟩
  have hlt : p.toNat < ks.length := by omega
  have hx := hf4 hk h0 hlt
  have hget : ks[p.toNat]? = some (kAt ks p.toNat) := by rw [List.getElem?_eq_getElem hlt, kAt_get hlt]
  have hK : KS[p.toNat]? = some (tyD (kAt ks p.toNat)) := by rw [← hKS, tysD_map, List.getElem?_map, hget]; rfl
  generalize kAt ks p.toNat = u at hx hK
  have hQ2 : ∀ h', Q (.tup [tyD u, .raw (.bool true)]) h' := fun h' => hQ _ _ (by unfold FieldQ; rw [hx]; exact .refl _)
  obtain ⟨tk, tn, tm, tl, tks⟩ := u
  simp only [tyD] at hK hQ2
  generalize tl.map strD = TL at hK hQ2
  generalize tysD tks = TK at hK hQ2
  refine IdxK.intro h0 hK ?_
  cbv
  (repeat'((first|(apply zS;kernel_rfl)|(apply zD;decide +kernel)|(apply zE;decide +kernel)|(apply zF;decide +kernel)|(apply zL;decide +kernel)|(apply zM;decide +kernel)|(apply zN;intros)|(apply zO;intros)|(apply zT;omega)|(apply zU;omega)|(apply zP;omega;intros)|(apply zQ;omega;intros)|apply zR);cbv))
  exact ⟨hQ2 _⟩
theorem fieldr_cp (s : ByteArray) (t : Ty5) (ho : okT t) : CP (TT ()) 32 [tyD t, .raw (.string s)] (· = .tup [tyD (fieldT s t).1, .raw (.bool (fieldT s t).2)]) :=
  ((wfun_ok (T := TT) (by kernel_rfl) (fieldr_run s t ho _ fun _ _ h => h)).weaken (R := fun d _ => d = .tup [tyD (fieldT s t).1, .raw (.bool (fieldT s t).2)]) fun d h' h => ⟨_, h, rfl⟩).cp fun d h' h => ⟨d, by rw [h]; simp [pureD, pureL, ty_pure], h⟩
end Go.Proofs.Ytbfmaicoefefaaa
