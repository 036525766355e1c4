/- What stands for a node: the three functions of the program, each over all data. -/
import Derived.Test.YtbfmaicoefefaaaSbC
set_option linter.unusedSimpArgs false
set_option linter.unusedVariables false
namespace Go.Proofs.Ytbfmaicoefefaaa
open Go.RowKit Pv
set_option maxRecDepth 100000
def zeroA : D := .agg [.raw (.int .i64 0), .raw (.int .i64 0), .raw (.string ⟨#[]⟩), .raw (.slice none 0 0), .raw (.slice none 0 0)]
theorem ins_no {o : Option Ty5} (h : o = none) : Wk (.tup [zeroA, .raw (.bool false)]) (insP o) := by
  subst h
  exact .tup (.cons zero_wk (.cons (.refl _) .nil))
theorem ins_yes {o : Option Ty5} {u : Ty5} (h : o = some u) : Wk (.tup [tyD u, .raw (.bool true)]) (insP o) := by
  subst h
  exact .refl _
set_option maxRecDepth 20000 in
set_option maxHeartbeats 4000000 in
theorem put1_run (m : List Bd) (hm : m.length ≤ 140737488355328) (k n : Int) (nm : ByteArray) (ls : List ByteArray) (ks : List Ty5) (Q : D → H → Prop) (hQ : ∀ d h', Wk d (insP (putF m k n nm)) → Q d h') :
    wfun TT 64 [tyD (.mk k n nm ls ks), .pe (.sl none 6 (bnsD m)) 0] [] Q := by
  have hcf := idxf_cw m (fun q => decide (q.1 = nm)) 66 [.bx 0 0] (nodeH (.mk k n nm ls ks)) hm fun q _ => put11_cw q (.mk k n nm ls ks)
  have hno : k ≠ 6 ∨ findT m nm = none → ∀ h', Q (.tup [zeroA, .raw (.bool false)]) h' := fun e h' => hQ _ h' (ins_no (by
    unfold putF
    split
    · rcases e with e | e
      · rename_i h6; exact absurd h6 e
      · exact e
    · rfl))
  have hyes : ∀ u, k = 6 → findT m nm = some u → ∀ h', Q (.tup [tyD u, .raw (.bool true)]) h' := fun u h6 e h' => hQ _ h' (ins_yes (by
    unfold putF
    rw [if_pos h6, e]))
  have hz : ∀ z, IdxQ m (fun q => decide (q.1 = nm)) z → (z < 0 ∧ findT m nm = none) ∨ (0 ≤ z ∧ z.toNat < m.length ∧ ∃ q, m[z.toNat]? = some q ∧ findT m nm = some q.2) := fun z h => by
    rcases h with ⟨rfl, h⟩ | ⟨h0, h1, ⟨q, hq, hp⟩, h2⟩
    · exact .inl ⟨by omega, findT_none fun j p hp => of_decide_eq_false (h j p hp)⟩
    · exact .inr ⟨h0, h1, q, hq, findT_some hq (of_decide_eq_true hp) fun j p hj hp => of_decide_eq_false (h2 j p hj hp)⟩
  have hBp := bns_pure m
  have hat := fun i => bns_at (m := m) (i := i)
  simp only [nodeH, tyF, tyD, leavesD, zeroF] at hcf ⊢
  unfold zeroA at hno
  clear hQ
  generalize bnsD m = BS at hcf hBp hat ⊢
  generalize ls.map strD = LS at hcf ⊢
  generalize tysD ks = KS at hcf ⊢
  generalize hq : IdxQ m (fun q => decide (q.1 = nm)) = P at hcf hz
  clear hq
  cbv
  (repeat'((first|(apply zS;kernel_rfl)|(apply zD;decide +kernel)|(apply zE;decide +kernel)|(apply zF;decide +kernel)|(apply zL;decide +kernel)|(apply zM;decide +kernel)|(apply zN;intros)|(apply zO;intros)|(apply zT;omega)|(apply zU;omega)|(apply zP;omega;intros)|(apply zQ;omega;intros)|apply zR);cbv))
  refine CallK.mut hcf ?_
  rintro d h' ⟨z, rfl, hp, rfl⟩
  have hz := hz z hp
  clear hcf hp
  cbv
  (repeat'((first|(apply zS;kernel_rfl)|(apply zD;decide +kernel)|(apply zE;decide +kernel)|(apply zF;decide +kernel)|(apply zL;decide +kernel)|(apply zM;decide +kernel)|(apply zN;intros)|(apply zO;intros)|(apply zT;omega)|(apply zU;omega)|(apply zP;omega;intros)|(apply zQ;omega;intros)|apply zR);cbv))
  refine BinK.neq ?_ ?_ <;> intro h6 <;> cbv <;> (repeat'((first|(apply zS;kernel_rfl)|(apply zD;decide +kernel)|(apply zE;decide +kernel)|(apply zF;decide +kernel)|(apply zL;decide +kernel)|(apply zM;decide +kernel)|(apply zN;intros)|(apply zO;intros)|(apply zT;omega)|(apply zU;omega)|(apply zP;omega;intros)|(apply zQ;omega;intros)|apply zR);cbv))
  · have hno := hno (.inl h6)
    exact ⟨hno _⟩
  refine BinK.lss ?_ ?_ <;> intro hz0 <;> cbv <;> (repeat'((first|(apply zS;kernel_rfl)|(apply zD;decide +kernel)|(apply zE;decide +kernel)|(apply zF;decide +kernel)|(apply zL;decide +kernel)|(apply zM;decide +kernel)|(apply zN;intros)|(apply zO;intros)|(apply zT;omega)|(apply zU;omega)|(apply zP;omega;intros)|(apply zQ;omega;intros)|apply zR);cbv))
  · have hno := hno (.inr (hz.elim (fun h => h.2) (fun h => absurd h.1 (by omega))))
    exact ⟨hno _⟩
  · obtain ⟨h1, q, hq, hf⟩ : z.toNat < m.length ∧ ∃ q, m[z.toNat]? = some q ∧ findT m nm = some q.2 := by
      rcases hz with h | ⟨_, h⟩
      · omega
      · exact h
    obtain ⟨q', hq', hB⟩ := hat z.toNat h1
    obtain rfl : q = q' := Option.some.inj (hq.symm.trans hq')
    have hyes := hyes q.2 h6 hf
    obtain ⟨k', n', nm', L', K', f0, f1, _, _⟩ := bn_node q
    rw [f0] at hB
    rw [f1] at hyes
    generalize q.1 = pn at hB
    refine IdxK.intro hz0 hB ?_
    cbv
    (repeat'((first|(apply zS;kernel_rfl)|(apply zD;decide +kernel)|(apply zE;decide +kernel)|(apply zF;decide +kernel)|(apply zL;decide +kernel)|(apply zM;decide +kernel)|(apply zN;intros)|(apply zO;intros)|(apply zT;omega)|(apply zU;omega)|(apply zP;omega;intros)|(apply zQ;omega;intros)|apply zR);cbv))
    exact ⟨hyes _⟩
theorem put1_cp (m : List Bd) (hm : m.length ≤ 140737488355328) (k n : Int) (nm : ByteArray) (ls : List ByteArray) (ks : List Ty5) : CP (TT ()) 64 [tyD (.mk k n nm ls ks), .pe (.sl none 6 (bnsD m)) 0] (· = insP (putF m k n nm)) :=
  c4_runW (insP_pure _) fun Q hQ => put1_run m hm k n nm ls ks Q hQ
set_option maxRecDepth 20000 in
set_option maxHeartbeats 4000000 in
theorem index_run (l : List ByteArray) (s : ByteArray) (hl : l.length ≤ 140737488355328) (Q : D → H → Prop) (hQ : ∀ (z : Int) h', (z < 0 ∧ placeT l s = none) ∨ (0 ≤ z ∧ placeT l s = some z.toNat) → Q (.raw (.int .i64 z)) h') :
    wfun TT 61 [.sl none 1 (l.map strD), .raw (.string s)] [] Q := by
  have hNl : (l.map strD).length = l.length := List.length_map ..
  have hat := fun i => strs_at (ls := l) (i := i)
  generalize l.map strD = NS at hNl hat ⊢
  cbv
  (repeat'((first|(apply zS;kernel_rfl)|(apply zD;decide +kernel)|(apply zE;decide +kernel)|(apply zF;decide +kernel)|(apply zL;decide +kernel)|(apply zM;decide +kernel)|(apply zN;intros)|(apply zO;intros)|(apply zT;omega)|(apply zU;omega)|(apply zP;omega;intros)|(apply zQ;omega;intros)|apply zR);cbv))
  refine LoopK.put (X := Int) (fun x => [(8, .raw (.int .i64 x))]) (fun _ => []) (fun x => l.length - x.toNat) (fun x => 0 ≤ x ∧ x.toNat ≤ l.length ∧ ∀ (j : Nat) (q : ByteArray), j < x.toNat → l[j]? = some q → q ≠ s) 0 ⟨by simp, by simp, fun j q hj => absurd hj (Nat.not_lt_zero _)⟩ rfl rfl ?_
  rintro i N ⟨h0, hi, hj⟩ hN
  simp only at h0 hi hj hN ⊢
  cbv
  (repeat'((first|(apply zS;kernel_rfl)|(apply zD;decide +kernel)|(apply zE;decide +kernel)|(apply zF;decide +kernel)|(apply zL;decide +kernel)|(apply zM;decide +kernel)|(apply zN;intros)|(apply zO;intros)|(apply zT;omega)|(apply zU;omega)|(apply zP;omega;intros)|(apply zQ;omega;intros)|apply zR);cbv))
  refine BinK.lss ?_ ?_ <;> intro hlt <;> cbv <;> (repeat'((first|(apply zS;kernel_rfl)|(apply zD;decide +kernel)|(apply zE;decide +kernel)|(apply zF;decide +kernel)|(apply zL;decide +kernel)|(apply zM;decide +kernel)|(apply zN;intros)|(apply zO;intros)|(apply zT;omega)|(apply zU;omega)|(apply zP;omega;intros)|(apply zQ;omega;intros)|apply zR);cbv))
  · obtain ⟨q, hq, hB⟩ := hat i.toNat (by omega)
    have hyes : s = q → ∀ h', Q (.raw (.int .i64 i)) h' := fun e h' => hQ i h' (.inr ⟨h0, placeT_some (e ▸ hq) hj⟩)
    have hnext : s ≠ q → ∀ r : Int, r = i + 1 → ∀ (j : Nat) (q : ByteArray), j < r.toNat → l[j]? = some q → q ≠ s := fun e r hr j q' hjr hq' => by
      by_cases hji : j = i.toNat
      · rw [hji, hq] at hq'
        cases hq'
        exact fun e' => e e'.symm
      · exact hj j q' (by omega) hq'
    clear hj hQ hq hat
    unfold strD at hB
    refine IdxK.intro h0 hB ?_
    cbv
    (repeat'((first|(apply zS;kernel_rfl)|(apply zD;decide +kernel)|(apply zE;decide +kernel)|(apply zF;decide +kernel)|(apply zL;decide +kernel)|(apply zM;decide +kernel)|(apply zN;intros)|(apply zO;intros)|(apply zT;omega)|(apply zU;omega)|(apply zP;omega;intros)|(apply zQ;omega;intros)|apply zR);cbv))
    refine BinK.seql ?_ ?_ <;> intro he
    · have hyes := hyes he
      cbv
      (repeat'((first|(apply zS;kernel_rfl)|(apply zD;decide +kernel)|(apply zE;decide +kernel)|(apply zF;decide +kernel)|(apply zL;decide +kernel)|(apply zM;decide +kernel)|(apply zN;intros)|(apply zO;intros)|(apply zT;omega)|(apply zU;omega)|(apply zP;omega;intros)|(apply zQ;omega;intros)|apply zR);cbv))
      exact ⟨hyes _⟩
    · have hnext := hnext he
      cbv
      (repeat'((first|(apply zS;kernel_rfl)|(apply zD;decide +kernel)|(apply zE;decide +kernel)|(apply zF;decide +kernel)|(apply zL;decide +kernel)|(apply zM;decide +kernel)|(apply zN;intros)|(apply zO;intros)|(apply zT;omega)|(apply zU;omega)|(apply zP;omega;intros)|(apply zQ;omega;intros)|apply zR);cbv))
      rename_i r hr
      have hnext := hnext r hr
      refine RoundK.next r ?_ ?_ ?_ ?_
      · exact ⟨by omega, by omega, hnext⟩
      · show l.length - r.toNat < N
        omega
      · rfl
      · rfl
  · have hno : ∀ h', Q (.raw (.int .i64 (-1))) h' := fun h' => hQ (-1) h' (.inl ⟨by omega, placeT_none fun j q hq => hj j q (by
      have := (List.getElem?_eq_some_iff.1 hq).1
      omega) hq⟩)
    exact ⟨hno _⟩
theorem index1_cp (l : List ByteArray) (s : ByteArray) (hl : l.length ≤ 140737488355328) : CP (TT ()) 61 [.sl none 1 (l.map strD), .raw (.string s)] fun d => ∃ z : Int, d = .raw (.int .i64 z) ∧ ((z < 0 ∧ placeT l s = none) ∨ (0 ≤ z ∧ placeT l s = some z.toNat)) :=
  (wfun_ok (T := TT) (by kernel_rfl) (index_run l s hl (fun d _ => ∃ z : Int, d = .raw (.int .i64 z) ∧ ((z < 0 ∧ placeT l s = none) ∨ (0 ≤ z ∧ placeT l s = some z.toNat))) fun z _ h => ⟨z, rfl, h⟩)).cp fun d h' ⟨z, h1, h2⟩ => ⟨d, by rw [h1]; rfl, z, h1, h2⟩
set_option maxRecDepth 20000 in
set_option maxHeartbeats 4000000 in
theorem seal1_run (names : List ByteArray) (fr : Int) (hf0 : 0 ≤ fr) (hf1 : fr ≤ 1073741824) (hnl : names.length ≤ 1073741824) (k n : Int) (nm : ByteArray) (ls : List ByteArray) (ks : List Ty5) (Q : D → H → Prop) (hQ : ∀ d h', Wk d (insP (sealF names fr k n nm)) → Q d h') :
    wfun TT 72 [tyD (.mk k n nm ls ks), .pe (.sl none 1 (names.map strD)) 0, .pe (.raw (.int .i64 fr)) 0] [] Q := by
  have hcf := index1_cp names nm (by omega)
  have hno : k ≠ 6 ∨ placeT names nm = none → ∀ h', Q (.tup [zeroA, .raw (.bool false)]) h' := fun e h' => hQ _ h' (ins_no (by
    unfold sealF
    split
    · rcases e with e | e
      · rename_i h6; exact absurd h6 e
      · rw [e]; rfl
    · rfl))
  have hyes : ∀ z x : Int, 0 ≤ z → x = fr + z → k = 6 → placeT names nm = some z.toNat → ∀ h', Q (.tup [.agg [.raw (.int .i64 9), .raw (.int .i64 x), .raw (.string ⟨#[]⟩), .raw (.slice none 0 0), .raw (.slice none 0 0)], .raw (.bool true)]) h' := fun z x hz0 hx h6 e h' => hQ _ h' (by
    rw [show sealF names fr k n nm = some (.mk 9 x ⟨#[]⟩ [] []) by
      unfold sealF
      rw [if_pos h6, e, Option.map_some, hx, show ((z.toNat : Nat) : Int) = z by omega]]
    exact .tup (.cons (.agg (.cons (.refl _) (.cons (.refl _) (.cons (.refl _) (.cons (nil_any 1) (.cons (nil_any 5) .nil)))))) (.cons (.refl _) .nil)))
  have hlt : ∀ z : Int, placeT names nm = some z.toNat → z.toNat < names.length := fun z h => placeT_lt h
  have hNp := strs_pure names
  simp only [tyD]
  unfold zeroA at hno
  clear hQ
  generalize names.map strD = NS at hcf hNp ⊢
  generalize ls.map strD = LS
  generalize tysD ks = KS
  cbv
  (repeat'((first|(apply zS;kernel_rfl)|(apply zD;decide +kernel)|(apply zE;decide +kernel)|(apply zF;decide +kernel)|(apply zL;decide +kernel)|(apply zM;decide +kernel)|(apply zN;intros)|(apply zO;intros)|(apply zT;omega)|(apply zU;omega)|(apply zP;omega;intros)|(apply zQ;omega;intros)|apply zR);cbv))
  refine CallK.pure hcf (by simp [pureL, pureD, hNp]) ?_
  rintro d ⟨z, rfl, hz⟩
  refine ⟨rfl, ?_⟩
  cbv
  (repeat'((first|(apply zS;kernel_rfl)|(apply zD;decide +kernel)|(apply zE;decide +kernel)|(apply zF;decide +kernel)|(apply zL;decide +kernel)|(apply zM;decide +kernel)|(apply zN;intros)|(apply zO;intros)|(apply zT;omega)|(apply zU;omega)|(apply zP;omega;intros)|(apply zQ;omega;intros)|apply zR);cbv))
  refine BinK.neq ?_ ?_ <;> intro h6 <;> cbv <;> (repeat'((first|(apply zS;kernel_rfl)|(apply zD;decide +kernel)|(apply zE;decide +kernel)|(apply zF;decide +kernel)|(apply zL;decide +kernel)|(apply zM;decide +kernel)|(apply zN;intros)|(apply zO;intros)|(apply zT;omega)|(apply zU;omega)|(apply zP;omega;intros)|(apply zQ;omega;intros)|apply zR);cbv))
  · have hno := hno (.inl h6)
    exact ⟨hno _⟩
  refine BinK.lss ?_ ?_ <;> intro hz0 <;> cbv <;> (repeat'((first|(apply zS;kernel_rfl)|(apply zD;decide +kernel)|(apply zE;decide +kernel)|(apply zF;decide +kernel)|(apply zL;decide +kernel)|(apply zM;decide +kernel)|(apply zN;intros)|(apply zO;intros)|(apply zT;omega)|(apply zU;omega)|(apply zP;omega;intros)|(apply zQ;omega;intros)|apply zR);cbv))
  · have hno := hno (.inr (hz.elim (fun h => h.2) (fun h => absurd h.1 (by omega))))
    exact ⟨hno _⟩
  · have hp : placeT names nm = some z.toNat := by
      rcases hz with h | h
      · omega
      · exact h.2
    have hl := hlt z hp
    refine BinK.add (by omega) ?_
    intro x hx
    have hyes := hyes z x hz0 hx h6 hp
    cbv
    (repeat'((first|(apply zS;kernel_rfl)|(apply zD;decide +kernel)|(apply zE;decide +kernel)|(apply zF;decide +kernel)|(apply zL;decide +kernel)|(apply zM;decide +kernel)|(apply zN;intros)|(apply zO;intros)|(apply zT;omega)|(apply zU;omega)|(apply zP;omega;intros)|(apply zQ;omega;intros)|apply zR);cbv))
    exact ⟨hyes _⟩
theorem seal1_cp (names : List ByteArray) (fr : Int) (hf0 : 0 ≤ fr) (hf1 : fr ≤ 1073741824) (hnl : names.length ≤ 1073741824) (k n : Int) (nm : ByteArray) (ls : List ByteArray) (ks : List Ty5) : CP (TT ()) 72 [tyD (.mk k n nm ls ks), .pe (.sl none 1 (names.map strD)) 0, .pe (.raw (.int .i64 fr)) 0] (· = insP (sealF names fr k n nm)) :=
  c4_runW (insP_pure _) fun Q hQ => seal1_run names fr hf0 hf1 hnl k n nm ls ks Q hQ
theorem BinK.subW {t : TypeId} {x y : Operand} {a b : Int} {K : D → Prop} (ha : -9223372036854775808 ≤ a ∧ a ≤ 9223372036854775807) (hb : -9223372036854775808 ≤ b ∧ b ≤ 9223372036854775807)
    (hk : ∀ r, (-9223372036854775808 ≤ a - b → a - b ≤ 9223372036854775807 → r = a - b) → (a - b < -9223372036854775808 → r = a - b + 18446744073709551616) → (9223372036854775807 < a - b → r = a - b - 18446744073709551616) → K (.raw (.int .i64 r))) : BinK TT .sub t x y (.int .i64 a) (.int .i64 b) K :=
  ⟨.int .i64 (IntKind.i64.wrap (a - b)), rfl, hk _ (fun h1 h2 => by rw [IntWalk.i64_in _ ⟨h1, h2⟩]) (fun h => by rw [IntKind.wrap_i64]; omega) (fun h => by rw [IntKind.wrap_i64]; omega)⟩
set_option maxRecDepth 20000 in
set_option maxHeartbeats 4000000 in
theorem open1_run (fr : Int) (l : List Ty5) (hfr : -9223372036854775808 ≤ fr ∧ fr ≤ 9223372036854775807) (hll : l.length ≤ 1000000) (hor : (0 ≤ fr ∧ fr ≤ 1073741824) ∨ l = []) (k n : Int) (hn : -9223372036854775808 ≤ n ∧ n ≤ 9223372036854775807) (nm : ByteArray) (ls : List ByteArray) (ks : List Ty5) (Q : D → H → Prop) (hQ : ∀ d h', Wk d (insP (openF fr l k n nm)) → Q d h') :
    wfun TT 70 [tyD (.mk k n nm ls ks), .pe (.raw (.int .i64 fr)) 0, .pe (.sl none 5 (tysD l)) 0] [] Q := by
  have hno : k ≠ 9 ∨ nth? l (n - fr) = none → ∀ h', Q (.tup [zeroA, .raw (.bool false)]) h' := fun e h' => hQ _ h' (ins_no (by
    unfold openF
    split
    · rcases e with e | e
      · rename_i h6; exact absurd h6 e
      · exact e
    · rfl))
  have hyes : ∀ u, k = 9 → nth? l (n - fr) = some u → ∀ h', Q (.tup [tyD u, .raw (.bool true)]) h' := fun u h6 e h' => hQ _ h' (ins_yes (by
    unfold openF
    rw [if_pos h6, e]))
  have hLl := tys_len l
  have hat := fun i => tys_at (ks := l) (i := i)
  simp only [tyD]
  unfold zeroA at hno
  clear hQ
  generalize tysD l = LL at hLl hat ⊢
  generalize ls.map strD = LS
  generalize tysD ks = KS
  cbv
  refine BinK.subW hn hfr ?_
  intro z z1 z2 z3
  have hzn : z < 0 ∨ l.length ≤ z.toNat → nth? l (n - fr) = none := fun h => by
    unfold nth?
    split
    · rename_i h0
      refine List.getElem?_eq_none ?_
      rcases hor with hor | rfl
      · rcases h with h | h <;> omega
      · simp
    · rfl
  have hzy : 0 ≤ z → z.toNat < l.length → nth? l (n - fr) = l[z.toNat]? := fun h0 h1 => by
    have hne : l ≠ [] := fun e => by subst e; simp at h1
    have hor : 0 ≤ fr ∧ fr ≤ 1073741824 := hor.resolve_right hne
    have : z = n - fr := by omega
    rw [← this]
    unfold nth?
    rw [if_pos h0]
  clear z1 z2 z3
  cbv
  (repeat'((first|(apply zS;kernel_rfl)|(apply zD;decide +kernel)|(apply zE;decide +kernel)|(apply zF;decide +kernel)|(apply zL;decide +kernel)|(apply zM;decide +kernel)|(apply zN;intros)|(apply zO;intros)|(apply zT;omega)|(apply zU;omega)|(apply zP;omega;intros)|(apply zQ;omega;intros)|apply zR);cbv))
  refine BinK.neq ?_ ?_ <;> intro h6 <;> cbv <;> (repeat'((first|(apply zS;kernel_rfl)|(apply zD;decide +kernel)|(apply zE;decide +kernel)|(apply zF;decide +kernel)|(apply zL;decide +kernel)|(apply zM;decide +kernel)|(apply zN;intros)|(apply zO;intros)|(apply zT;omega)|(apply zU;omega)|(apply zP;omega;intros)|(apply zQ;omega;intros)|apply zR);cbv))
  · have hno := hno (.inl h6)
    exact ⟨hno _⟩
  refine BinK.lss ?_ ?_ <;> intro hz0 <;> cbv <;> (repeat'((first|(apply zS;kernel_rfl)|(apply zD;decide +kernel)|(apply zE;decide +kernel)|(apply zF;decide +kernel)|(apply zL;decide +kernel)|(apply zM;decide +kernel)|(apply zN;intros)|(apply zO;intros)|(apply zT;omega)|(apply zU;omega)|(apply zP;omega;intros)|(apply zQ;omega;intros)|apply zR);cbv))
  · have hno := hno (.inr (hzn (.inl hz0)))
    exact ⟨hno _⟩
  refine BinK.geq ?_ ?_ <;> intro hz1 <;> cbv <;> (repeat'((first|(apply zS;kernel_rfl)|(apply zD;decide +kernel)|(apply zE;decide +kernel)|(apply zF;decide +kernel)|(apply zL;decide +kernel)|(apply zM;decide +kernel)|(apply zN;intros)|(apply zO;intros)|(apply zT;omega)|(apply zU;omega)|(apply zP;omega;intros)|(apply zQ;omega;intros)|apply zR);cbv))
  · have hno := hno (.inr (hzn (.inr (by omega))))
    exact ⟨hno _⟩
  · have h1 : z.toNat < l.length := by omega
    obtain ⟨u, hu, hK⟩ := hat z.toNat h1
    have hyes := hyes u h6 ((hzy hz0 h1).trans hu)
    obtain ⟨k1, n1, m1, L1, K1, f1, _, _⟩ := c4_node u
    rw [f1] at hK hyes
    refine IdxK.intro hz0 hK ?_
    cbv
    (repeat'((first|(apply zS;kernel_rfl)|(apply zD;decide +kernel)|(apply zE;decide +kernel)|(apply zF;decide +kernel)|(apply zL;decide +kernel)|(apply zM;decide +kernel)|(apply zN;intros)|(apply zO;intros)|(apply zT;omega)|(apply zU;omega)|(apply zP;omega;intros)|(apply zQ;omega;intros)|apply zR);cbv))
    exact ⟨hyes _⟩
theorem open1_cp (fr : Int) (l : List Ty5) (hfr : -9223372036854775808 ≤ fr ∧ fr ≤ 9223372036854775807) (hll : l.length ≤ 1000000) (hor : (0 ≤ fr ∧ fr ≤ 1073741824) ∨ l = []) (k n : Int) (hn : -9223372036854775808 ≤ n ∧ n ≤ 9223372036854775807) (nm : ByteArray) (ls : List ByteArray) (ks : List Ty5) : CP (TT ()) 70 [tyD (.mk k n nm ls ks), .pe (.raw (.int .i64 fr)) 0, .pe (.sl none 5 (tysD l)) 0] (· = insP (openF fr l k n nm)) :=
  c4_runW (insP_pure _) fun Q hQ => open1_run fr l hfr hll hor k n hn nm ls ks Q hQ
end Go.Proofs.Ytbfmaicoefefaaa
