/- limbecklaw07.Few. -/
import Derived.Test.YtbfmaicoefefaaaPwC4
import Derived.Test.YtbfmaicoefefaaaPwBd
set_option linter.unusedSimpArgs false
set_option linter.unusedVariables false
namespace Go.Proofs.Ytbfmaicoefefaaa
open Go.RowKit Pv
set_option maxRecDepth 100000
theorem lenq_str {ty : TypeId} {cs : Array Bool} {s : ByteArray} {z : Int} {K : D → Prop} (hz : (s.size : Int) = z) (hk : K (.raw (.int .i64 z))) : BuiltK TT .len #[9] ty cs [.string s] K := by
  refine ⟨.int .i64 z, ?_, hk⟩
  rw [← hz]
  rfl
/-! ### Few -/
theorem quo_eight {t : TypeId} {x y : Operand} {a : Int} {K : D → Prop} (h : 0 ≤ a ∧ a ≤ 9223372036854775807) (hk : ∀ r, r = a / 8 → K (.raw (.int .i64 r))) : BinK TT .quo t x y (.int .i64 a) (.int .i64 8) K :=
  ⟨.int .i64 (IntKind.i64.wrap (a.tdiv 8)), by first | rfl | kernel_rfl, by rw [IntWalk.i64_quo _ _ (by omega)]; exact hk _ rfl⟩
theorem max_three {ts : Array TypeId} {ty : TypeId} {cs : Array Bool} {a b c : Int} {K : D → Prop} (hk : ∀ r, a ≤ r → b ≤ r → c ≤ r → K (.raw (.int .i64 r))) : BuiltK TT .max ts ty cs [.int .i64 a, .int .i64 b, .int .i64 c] K := by
  refine ⟨.int .i64 (if c > (if b > a then b else a) then c else (if b > a then b else a)), ?_, hk _ ?_ ?_ ?_⟩
  · rfl
  all_goals
    split <;> split at * <;> omega
set_option maxRecDepth 20000 in
set_option maxHeartbeats 4000000 in
theorem few_run (m : List Bd) (hmo : okB m) (hm : ∀ p ∈ m, p.1.size ≤ 1048576 ∧ szT p.2 ≤ 1048576) (Q : D → H → Prop)
    (hQ : ∀ z h', (z < 5000 → m.length ≤ 20 ∧ ∀ p ∈ m, (much p.2 : Int) ≤ z) → Q (.raw (.int .i64 z)) h') : wfun TT 35 [.sl none 6 (bnsD m)] [] Q := by
  have hBi := bns_idb m
  have hBl := bns_len m
  have hat := fun i => bns_at (m := m) (i := i)
  generalize bnsD m = BS at hBi hBl hat ⊢
  cbv
  (repeat'((first|(apply zS;kernel_rfl)|(apply zD;decide +kernel)|(apply zE;decide +kernel)|(apply zF;decide +kernel)|(apply zL;decide +kernel)|(apply zM;decide +kernel)|(apply zN;intros)|(apply zO;intros)|(apply zT;omega)|(apply zU;omega)|(apply zP;omega;intros)|(apply zQ;omega;intros)|apply zR);cbv))
  refine LoopK.put (X := Int × Int) (fun x => [(3, .raw (.int .i64 x.2)), (4, .raw (.int .i64 x.1))]) (fun _ => []) (fun x => 20 - x.1.toNat)
    (fun x => 0 ≤ x.1 ∧ x.1.toNat ≤ m.length ∧ x.1 ≤ 20 ∧ ∀ (j : Nat) (p : Bd), j < x.1.toNat → m[j]? = some p → (much p.2 : Int) ≤ x.2) (0, 0) ⟨by simp, by simp, by simp, fun j p hj => absurd hj (Nat.not_lt_zero _)⟩ rfl rfl ?_
  rintro ⟨i, n⟩ N ⟨h0, hi, h20, hj⟩ hN
  simp only at h0 hi h20 hj hN ⊢
  cbv
  (repeat'((first|(apply zS;kernel_rfl)|(apply zD;decide +kernel)|(apply zE;decide +kernel)|(apply zF;decide +kernel)|(apply zL;decide +kernel)|(apply zM;decide +kernel)|(apply zN;intros)|(apply zO;intros)|(apply zT;omega)|(apply zU;omega)|(apply zP;omega;intros)|(apply zQ;omega;intros)|apply zR);cbv))
  refine BinK.lss ?_ ?_ <;> intro hlt <;> cbv <;> (repeat'((first|(apply zS;kernel_rfl)|(apply zD;decide +kernel)|(apply zE;decide +kernel)|(apply zF;decide +kernel)|(apply zL;decide +kernel)|(apply zM;decide +kernel)|(apply zN;intros)|(apply zO;intros)|(apply zT;omega)|(apply zU;omega)|(apply zP;omega;intros)|(apply zQ;omega;intros)|apply zR);cbv))
  case' refine_1 =>
    refine BinK.lss ?_ ?_ <;> intro hlt2 <;> cbv <;> (repeat'((first|(apply zS;kernel_rfl)|(apply zD;decide +kernel)|(apply zE;decide +kernel)|(apply zF;decide +kernel)|(apply zL;decide +kernel)|(apply zM;decide +kernel)|(apply zN;intros)|(apply zO;intros)|(apply zT;omega)|(apply zU;omega)|(apply zP;omega;intros)|(apply zQ;omega;intros)|apply zR);cbv))
    · obtain ⟨p, hp, hB⟩ := hat i.toNat (by omega)
      have hpm := List.mem_of_getElem? hp
      have cM := muchq_cp p.2 (hmo p hpm).2 (hm p hpm).2
      have hpp := ty_pure p.2
      have hsz := (hm p hpm).1
      have hnext : ∀ n' : Int, n ≤ n' → (much p.2 : Int) ≤ n' → ∀ (j : Nat) (q : Bd), j < i.toNat + 1 → m[j]? = some q → (much q.2 : Int) ≤ n' := fun n' h1 h2 j q hjr hq => by
        by_cases hji : j = i.toNat
        · rw [hji, hp] at hq
          cases hq
          exact h2
        · exact Int.le_trans (hj j q (by omega) hq) h1
      obtain ⟨M, hM⟩ : ∃ M : Int, ((much p.2 : Nat) : Int) = M := ⟨_, rfl⟩
      rw [hM] at cM hnext
      obtain ⟨k0, n0, m0, L0, K0, f0, f1, j1, j2⟩ := bn_node p
      rw [f1] at cM hpp
      rw [f0] at hB
      obtain ⟨zp, hzp, hz0, hz1⟩ : ∃ z : Int, (p.1.size : Int) = z ∧ 0 ≤ z ∧ z ≤ 1048576 := ⟨_, rfl, by omega, by omega⟩
      generalize p.1 = pn at hB hzp
      clear f0 f1 j1 j2 hsz hM
      refine IdxK.intro h0 hB ?_
      cbv
      (repeat'((first|(apply zS;kernel_rfl)|(apply zD;decide +kernel)|(apply zE;decide +kernel)|(apply zF;decide +kernel)|(apply zL;decide +kernel)|(apply zM;decide +kernel)|(apply zN;intros)|(apply zO;intros)|(apply zT;omega)|(apply zU;omega)|(apply zP;omega;intros)|(apply zQ;omega;intros)|apply zR);cbv))
      refine .one cM (cons_pure hpp rfl) rfl ?_
      cbv
      (repeat'((first|(apply zS;kernel_rfl)|(apply zD;decide +kernel)|(apply zE;decide +kernel)|(apply zF;decide +kernel)|(apply zL;decide +kernel)|(apply zM;decide +kernel)|(apply zN;intros)|(apply zO;intros)|(apply zT;omega)|(apply zU;omega)|(apply zP;omega;intros)|(apply zQ;omega;intros)|apply zR);cbv))
      refine IdxK.intro h0 hB ?_
      cbv
      (repeat'((first|(apply zS;kernel_rfl)|(apply zD;decide +kernel)|(apply zE;decide +kernel)|(apply zF;decide +kernel)|(apply zL;decide +kernel)|(apply zM;decide +kernel)|(apply zN;intros)|(apply zO;intros)|(apply zT;omega)|(apply zU;omega)|(apply zP;omega;intros)|(apply zQ;omega;intros)|apply zR);cbv))
      refine lenq_str hzp ?_
      cbv
      (repeat'((first|(apply zS;kernel_rfl)|(apply zD;decide +kernel)|(apply zE;decide +kernel)|(apply zF;decide +kernel)|(apply zL;decide +kernel)|(apply zM;decide +kernel)|(apply zN;intros)|(apply zO;intros)|(apply zT;omega)|(apply zU;omega)|(apply zP;omega;intros)|(apply zQ;omega;intros)|apply zR);cbv))
      refine quo_eight (by omega) fun q hq => ?_
      cbv
      (repeat'((first|(apply zS;kernel_rfl)|(apply zD;decide +kernel)|(apply zE;decide +kernel)|(apply zF;decide +kernel)|(apply zL;decide +kernel)|(apply zM;decide +kernel)|(apply zN;intros)|(apply zO;intros)|(apply zT;omega)|(apply zU;omega)|(apply zP;omega;intros)|(apply zQ;omega;intros)|apply zR);cbv))
      refine max_three fun n' e1 e2 e3 => ?_
      have hnext := hnext n' e1 e2
      cbv
      (repeat'((first|(apply zS;kernel_rfl)|(apply zD;decide +kernel)|(apply zE;decide +kernel)|(apply zF;decide +kernel)|(apply zL;decide +kernel)|(apply zM;decide +kernel)|(apply zN;intros)|(apply zO;intros)|(apply zT;omega)|(apply zU;omega)|(apply zP;omega;intros)|(apply zQ;omega;intros)|apply zR);cbv))
      rename_i r hr
      refine RoundK.next (r, n') ⟨by omega, by omega, by omega, ?_⟩ (by omega) rfl rfl
      rw [show r.toNat = i.toNat + 1 by omega]
      exact hnext
    · exact ⟨hQ _ _ fun h => absurd h (by omega)⟩
  case' refine_2 =>
    refine ⟨hQ _ _ fun h => ⟨by omega, fun p hp => ?_⟩⟩
    obtain ⟨j, hjl, rfl⟩ := List.getElem_of_mem hp
    exact hj j _ (by omega) (List.getElem?_eq_getElem hjl)
theorem few_cp (m : List Bd) (hmo : okB m) (hm : ∀ p ∈ m, p.1.size ≤ 1048576 ∧ szT p.2 ≤ 1048576) : CP (TT ()) 35 [.sl none 6 (bnsD m)] fun d => ∃ z : Int, d = .raw (.int .i64 z) ∧ (z < 5000 → m.length ≤ 20 ∧ ∀ p ∈ m, much p.2 ≤ z.toNat) :=
  (wfun_ok (T := TT) (by kernel_rfl) (few_run m hmo hm (fun d _ => ∃ z : Int, d = .raw (.int .i64 z) ∧ (z < 5000 → m.length ≤ 20 ∧ ∀ p ∈ m, much p.2 ≤ z.toNat)) fun z _ h => ⟨z, rfl, fun h1 => ⟨(h h1).1, fun p hp => by have := (h h1).2 p hp; omega⟩⟩)).cp fun d h' ⟨z, h1, h2⟩ => ⟨d, by rw [h1]; rfl, z, h1, h2⟩
end Go.Proofs.Ytbfmaicoefefaaa
