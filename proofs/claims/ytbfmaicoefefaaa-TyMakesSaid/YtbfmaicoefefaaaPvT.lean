/- Types as data of the evaluator: a datum read back as a type, and what the hand-made contracts of package ty come to there. -/
import Derived.Test.YtbfmaicoefefaaaPvR
import Derived.Test.YtbfmaicoefefaaaTyRl
import Derived.Test.YtbfmaicoefefaaaTySp
import Derived.KernelRfl
set_option linter.unusedSimpArgs false
set_option linter.unusedVariables false
namespace Go.Proofs.Ytbfmaicoefefaaa
open Go.RowKit Pv
set_option maxRecDepth 100000
def strOf : D → Option ByteArray
  | .raw (.string s) => if s.size ≤ maxLen then some s else none
  | _ => none
def strsL : List D → Option (List ByteArray)
  | [] => some []
  | d :: r => match strOf d, strsL r with
    | some s, some l => some (s :: l)
    | _, _ => none
def nilD : D → Bool
  | .raw (.slice none n m) => n == 0 && m == 0
  | _ => false
def slD : D → Option (Nat × List D)
  | .sl _ sz ds => some (sz, ds)
  | _ => none
def strsOf (d : D) : Option (List ByteArray) := if nilD d = true then some [] else match slD d with
  | some (sz, ds) => if sz = 1 ∨ ds.length = 0 then strsL ds else none
  | none => none
def intD : D → Option Int
  | .raw (.int k n) => if k = .i64 then some n else none
  | _ => none
def five : List D → Option (D × D × D × D × D)
  | [a, b, c, d, e] => some (a, b, c, d, e)
  | _ => none
def kidsL (g : D → Option Ty5) : List D → Option (List Ty5)
  | [] => some []
  | d :: r => match g d, kidsL g r with
    | some t, some l => some (t :: l)
    | _, _ => none
def kidsOf (g : D → Option Ty5) (d : D) : Option (List Ty5) := if nilD d = true then some [] else match slD d with
  | some (sz, ds) => if sz = 5 ∨ ds.length = 0 then kidsL g ds else none
  | none => none
def tyOf : Nat → D → Option Ty5
  | 0, _ => none
  | f + 1, d => match (cellsD d).bind five with
    | some (a, b, c, L, A) => match intD a, intD b, strOf c, strsOf L, kidsOf (tyOf f) A with
      | some k, some n, some nm, some ls, some ks => some (.mk k n nm ls ks)
      | _, _, _, _, _ => none
    | none => none
theorem intD_some {d : D} {n : Int} (e : intD d = some n) : d = .raw (.int .i64 n) := by
  unfold intD at e
  split at e
  · split at e
    · rename_i h; cases e; rw [h]
    · cases e
  · cases e
theorem five_some {l : List D} {a b c d e : D} (h : five l = some (a, b, c, d, e)) : l = [a, b, c, d, e] := by
  unfold five at h
  split at h
  · cases h; rfl
  · cases h
theorem nilD_some {d : D} (e : nilD d = true) : d = .raw (.slice none 0 0) := by
  unfold nilD at e
  split at e
  · simp only [Bool.and_eq_true, beq_iff_eq] at e
    rw [e.1, e.2]
  · cases e
theorem slD_some {d : D} {sz : Nat} {ds : List D} (e : slD d = some (sz, ds)) : ∃ tag, d = .sl tag sz ds := by
  unfold slD at e
  split at e
  · cases e; exact ⟨_, rfl⟩
  · cases e
theorem strOf_some {d : D} {s : ByteArray} (e : strOf d = some s) : d = .raw (.string s) ∧ s.size ≤ maxLen := by
  unfold strOf at e
  split at e
  · split at e
    · rename_i h; cases e; exact ⟨rfl, h⟩
    · cases e
  · cases e
section
variable {C : Cx} {w : World}
theorem strsL_get : ∀ {ds : List D} {ls : List ByteArray}, strsL ds = some ls → ls.length = ds.length ∧ (∀ s ∈ ls, s.size ≤ maxLen) ∧ ∀ j, j < ls.length → ds[j]? = some (.raw (.string (stAt ls j)))
  | [], ls, e => by simp only [strsL, Option.some.injEq] at e; subst e; exact ⟨rfl, fun s h => (by cases h), fun j hj => absurd hj (Nat.not_lt_zero _)⟩
  | d :: r, ls, e => by
    simp only [strsL] at e
    split at e
    · rename_i s l h1 h2
      cases e
      obtain ⟨k1, k2, k3⟩ := strsL_get h2
      unfold strOf at h1
      split at h1
      · rename_i s'
        split at h1
        · rename_i hs
          cases h1
          refine ⟨by simp [k1], fun x hx => ?_, fun j hj => ?_⟩
          · rcases List.mem_cons.1 hx with rfl | hx
            · exact hs
            · exact k2 x hx
          · cases j with
            | zero => rfl
            | succ j =>
              have := k3 j (by simpa using hj)
              simpa [stAt] using this
        · cases h1
      · cases h1
    · cases e
theorem strsOf_in {d : D} {ls : List ByteArray} {v : Value} (e : strsOf d = some ls) (h : Rd C w d v) : StrsAt w v ls := by
  unfold strsOf at e
  split at e
  · rename_i hn
    have : d = .raw (.slice none 0 0) := nilD_some hn
    subst this
    cases e
    simp only [Rd] at h
    subst h
    exact ⟨fun s h => (by cases h), Nat.zero_le _, .inl ⟨_, _, rfl, rfl⟩⟩
  · split at e
    · rename_i sz ds hsd
      obtain ⟨tag, rfl⟩ : ∃ tag, d = .sl tag sz ds := slD_some hsd
      split at e
      · rename_i hsz
        obtain ⟨h1, h2, h3⟩ := strsL_get e
        obtain ⟨⟨a, cap, rfl, hc1, hc2⟩, hx, _⟩ := h
        refine ⟨h2, by omega, ?_⟩
        by_cases h0 : 0 < ds.length
        · obtain ⟨b, off, cap', hv, _, hr⟩ := hx h0
          simp at hv
          obtain ⟨rfl, rfl⟩ := hv
          have hs1 : sz = 1 := by omega
          subst hs1
          have hcell : ∀ j, j < ls.length → w.cell? ⟨b, off + j, none⟩ = some (.string (stAt ls j)) := fun j hj => by
            obtain ⟨u, k1, k2, _, k4⟩ := hr.get (h3 j hj)
            simp only [Rd] at k1
            subst k1
            have := k4 0 (by simp [Value.cells])
            simpa [Value.cells] using this
          exact .inr ⟨b, off, cap, by rw [h1], World.block_lt_of_cell? w _ (hcell 0 (by omega)), hcell⟩
        · have : ds = [] := List.eq_nil_of_length_eq_zero (by omega)
          subst this
          have : ls = [] := List.eq_nil_of_length_eq_zero (by simpa using h1)
          exact .inl ⟨a, cap, rfl, this⟩
      · cases e
    · cases e
theorem kidsL_in {g : D → Option Ty5} (hg : ∀ {d : D} {t : Ty5} {v : Value}, g d = some t → Rd C w d v → ∃ v0 v1 v2 v3 v4, v = .agg #[v0, v1, v2, v3, v4] ∧ TyIn w t v0 v1 v2 v3 v4) : ∀ (ds : List D) (b off : Nat) {ks : List Ty5}, kidsL g ds = some ks → RdE C w 5 ds (fun i => w.cell? ⟨b, off + i, none⟩) → ks.length = ds.length ∧ RowIn w b off ks
  | [], b, off, ks, e, _ => by unfold kidsL at e; cases e; exact ⟨rfl, trivial⟩
  | d :: r, b, off, ks, e, ⟨⟨u, k1, k2, _, k4⟩, hr⟩ => by
    unfold kidsL at e
    split at e
    · rename_i t l h1 h2
      cases e
      obtain ⟨v0, v1, v2, v3, v4, rfl, hT⟩ := hg h1 k1
      obtain ⟨j1, j2⟩ := kidsL_in hg r b (off + 5) h2 (by simpa only [Nat.add_assoc] using hr)
      refine ⟨by simp [j1], ⟨v0, v1, v2, v3, v4, ?_, ?_, ?_, ?_, ?_, hT⟩, j2⟩
      · simpa [Value.cells] using k4 0 (by simp [Value.cells])
      · simpa [Value.cells] using k4 1 (by simp [Value.cells])
      · simpa [Value.cells] using k4 2 (by simp [Value.cells])
      · simpa [Value.cells] using k4 3 (by simp [Value.cells])
      · simpa [Value.cells] using k4 4 (by simp [Value.cells])
    · cases e
theorem kidsOf_in {g : D → Option Ty5} (hg : ∀ {d : D} {t : Ty5} {v : Value}, g d = some t → Rd C w d v → ∃ v0 v1 v2 v3 v4, v = .agg #[v0, v1, v2, v3, v4] ∧ TyIn w t v0 v1 v2 v3 v4) {d : D} {ks : List Ty5} {v : Value} (e : kidsOf g d = some ks) (h : Rd C w d v) : ks.length ≤ maxLen ∧ ((∃ a cap, v = .slice a 0 cap ∧ ks = []) ∨ ∃ b off cap, v = .slice (some ⟨b, off, none⟩) ks.length cap ∧ RowIn w b off ks) := by
    unfold kidsOf at e
    split at e
    · rename_i hn
      have := nilD_some hn
      subst this
      cases e
      simp only [Rd] at h
      subst h
      exact ⟨Nat.zero_le _, .inl ⟨_, _, rfl, rfl⟩⟩
    · split at e
      · rename_i sz ds hsd
        obtain ⟨tag, rfl⟩ := slD_some hsd
        split at e
        · rename_i hsz
          obtain ⟨⟨a, cap, rfl, hc1, hc2⟩, hx, _⟩ := h
          by_cases h0 : 0 < ds.length
          · obtain ⟨b, off, cap', hv, _, hr⟩ := hx h0
            simp at hv
            obtain ⟨rfl, rfl⟩ := hv
            have hs5 : sz = 5 := by omega
            subst hs5
            obtain ⟨k1, k2⟩ := kidsL_in hg ds b off e hr
            exact ⟨by omega, .inr ⟨b, off, cap, by rw [k1], k2⟩⟩
          · have : ds = [] := List.eq_nil_of_length_eq_zero (by omega)
            subst this
            unfold kidsL at e
            cases e
            exact ⟨Nat.zero_le _, .inl ⟨_, _, rfl, rfl⟩⟩
        · cases e
      · cases e
theorem tyOf_in : ∀ (f : Nat) {d : D} {t : Ty5} {v : Value}, tyOf f d = some t → Rd C w d v → ∃ v0 v1 v2 v3 v4, v = .agg #[v0, v1, v2, v3, v4] ∧ TyIn w t v0 v1 v2 v3 v4
  | 0, _, _, _, e, _ => by simp [tyOf] at e
  | f + 1, d, t, v, e, h => by
    simp only [tyOf] at e
    split at e
    · rename_i a b c L A h5
      rw [Option.bind_eq_some_iff] at h5
      obtain ⟨cs, hcs, h5⟩ := h5
      have h5 := five_some h5
      subst h5
      split at e
      · rename_i k n nm ls ks g1 g2 g3 g4 g6
        cases e
        have hr := h.cells hcs
        have e1 := intD_some g1
        have e2 := intD_some g2
        obtain ⟨e3, hm⟩ := strOf_some g3
        subst e1 e2 e3
        obtain ⟨u0, r0, hv0, q0, u1, r1, rfl, q1, u2, r2, rfl, q2, u3, r3, rfl, q3, u4, r4, rfl, q4, q5⟩ := hr
        simp only [RdL] at q5
        subst q5
        simp only [Rd] at q0 q1 q2
        subst q0 q1 q2
        obtain ⟨k1, k2⟩ := kidsOf_in (fun e h => tyOf_in f e h) g6 q4
        refine ⟨.int .i64 k, .int .i64 n, .string nm, u3, u4, ?_, rfl, rfl, ⟨rfl, hm⟩, strsOf_in g4 q3, k1, k2⟩
        cases v with
        | agg vs =>
          simp only [Value.cells] at hv0
          congr 1
          apply Array.ext'
          simpa using hv0
        | _ => simp [Value.cells] at hv0
      · cases e
    · cases e
end
/-! ### Contracts that yield a plain value -/
theorem yd_raw {k : FuncId} {ds : List D} {u : Value} (h : ∀ (S : Nat → Nat → Prop) (w : World) (args : List Value), RdL (bare S) w ds args → Calls Try.prog k args.toArray w fun e w' => e = .returned u ∧ Below w.heap.size w w') : Yd Try.prog k ds (.raw u) := by
  intro S w args hS r
  refine (h S w args r).mono ?_
  rintro e w' ⟨rfl, hb⟩
  exact ⟨u, S, rfl, hb, fun _ _ h => h, fun b o hs => ⟨Nat.lt_of_lt_of_le (hS b o hs) hb.size, fun _ => hs⟩, rfl⟩
theorem one_ty {S : Nat → Nat → Prop} {w : World} {f : Nat} {d : D} {t : Ty5} {args : List Value} (e : tyOf f d = some t) (r : RdL (bare S) w [d] args) : ∃ v0 v1 v2 v3 v4, args = [.agg #[v0, v1, v2, v3, v4]] ∧ TyIn w t v0 v1 v2 v3 v4 := by
  obtain ⟨v, rest, rfl, h1, h2⟩ := r
  simp only [RdL] at h2
  subst h2
  obtain ⟨v0, v1, v2, v3, v4, rfl, hT⟩ := tyOf_in f e h1
  exact ⟨_, _, _, _, _, rfl, hT⟩
def tyBase : FuncId → List D → Option D := fun k ds =>
  match ds with
  | [d] => match tyOf 400 d with
    | some t =>
      if k = 13 then some (.raw (.bool (rightT varB risingB t)))
      else if k = 15 then if nodesT t ≤ 1000000 then some (.raw (.int .i64 (nodesT t))) else none
      else if k = 17 then if nodesT t ≤ 1000000 then some (.raw (.int .i64 (depthT t))) else none
      else if k = 24 then some (.raw (.bool (decide (nodesT t ≤ 300))))
      else none
    | none => if k = 58 then match strsOf d with
      | some ls => some (.raw (.bool (risingB ls)))
      | none => none
      else none
  | [d, x] => match tyOf 400 d with
    | some t => if k = 19 then match intD x with
        | some kd => some (.raw (.bool (hasT kd t)))
        | none => none
      else if k = 26 then match tyOf 400 x with
        | some t' => some (.raw (.bool (sameT t t')))
        | none => none
      else none
    | none => none
  | _ => none
theorem callable_of {k : FuncId} {fn : Func} {c : Code} (hf : Try.prog.funcs[k]? = some fn) (hn : (fn.name == "runtime.NumGoroutine") = false) (hb : fn.body = some c) : Callable Try.prog k := ⟨fn, c, hf, hn, hb⟩
theorem tyBase_ok : PureOk Try.prog tyBase := by
  have hcR : Callable Try.prog 13 := callable_of Try.func13 (by kernel_rfl) rfl
  have hcN : Callable Try.prog 15 := callable_of Try.func15 (by kernel_rfl) rfl
  have hcD : Callable Try.prog 17 := callable_of Try.func17 (by kernel_rfl) rfl
  have hcF : Callable Try.prog 24 := callable_of Try.func24 (by kernel_rfl) rfl
  have hcH : Callable Try.prog 19 := callable_of Try.func19 (by kernel_rfl) rfl
  have hcS : Callable Try.prog 26 := callable_of Try.func26 (by kernel_rfl) rfl
  have hcI : Callable Try.prog 58 := callable_of Try.func58 (by kernel_rfl) rfl
  have key : ∀ k ds d, tyBase k ds = some d → Callable Try.prog k ∧ Yd Try.prog k ds d := by
    intro k ds d e
    unfold tyBase at e
    split at e
    · rename_i d0
      split at e
      · rename_i t ht
        split at e
        · rename_i hk; subst hk; cases e
          refine ⟨hcR, yd_raw fun S w args r => ?_⟩
          obtain ⟨v0, v1, v2, v3, v4, rfl, hT⟩ := one_ty ht r
          exact pright_any t v0 v1 v2 v3 v4 w hT
        · split at e
          · rename_i hk; subst hk
            split at e
            · rename_i hn; cases e
              refine ⟨hcN, yd_raw fun S w args r => ?_⟩
              obtain ⟨v0, v1, v2, v3, v4, rfl, hT⟩ := one_ty ht r
              exact pnodes_any t v0 v1 v2 v3 v4 w hT hn
            · cases e
          · split at e
            · rename_i hk; subst hk
              split at e
              · rename_i hn; cases e
                refine ⟨hcD, yd_raw fun S w args r => ?_⟩
                obtain ⟨v0, v1, v2, v3, v4, rfl, hT⟩ := one_ty ht r
                exact pdepth_any t v0 v1 v2 v3 v4 w hT hn
              · cases e
            · split at e
              · rename_i hk; subst hk; cases e
                refine ⟨hcF, yd_raw fun S w args r => ?_⟩
                obtain ⟨v0, v1, v2, v3, v4, rfl, hT⟩ := one_ty ht r
                exact pfits_any t v0 v1 v2 v3 v4 w hT
              · cases e
      · split at e
        · rename_i hk; subst hk
          split at e
          · rename_i ls hl; cases e
            refine ⟨hcI, yd_raw fun S w args r => ?_⟩
            obtain ⟨v, rest, rfl, h1, h2⟩ := r
            simp only [RdL] at h2
            subst h2
            exact rising_any v ls w (strsOf_in hl h1)
          · cases e
        · cases e
    · rename_i d0 x
      split at e
      · rename_i t ht
        split at e
        · rename_i hk; subst hk
          split at e
          · rename_i kd hkd; cases e
            have := intD_some hkd
            subst this
            refine ⟨hcH, yd_raw fun S w args r => ?_⟩
            obtain ⟨v, rest, rfl, h1, u, rest2, rfl, h2, h3⟩ := r
            simp only [RdL] at h3
            subst h3
            simp only [Rd] at h2
            subst h2
            obtain ⟨v0, v1, v2, v3, v4, rfl, hT⟩ := tyOf_in 400 ht h1
            exact phas_any t kd v0 v1 v2 v3 v4 w hT
          · cases e
        · split at e
          · rename_i hk; subst hk
            split at e
            · rename_i t' ht'; cases e
              refine ⟨hcS, yd_raw fun S w args r => ?_⟩
              obtain ⟨v, rest, rfl, h1, u, rest2, rfl, h2, h3⟩ := r
              simp only [RdL] at h3
              subst h3
              obtain ⟨v0, v1, v2, v3, v4, rfl, hT⟩ := tyOf_in 400 ht h1
              obtain ⟨u0, u1, u2, u3, u4, rfl, hU⟩ := tyOf_in 400 ht' h2
              exact psameTy_any _ t t' _ _ _ _ _ _ _ _ _ _ w (Nat.le_refl _) hT hU
            · cases e
          · cases e
      · cases e
    · cases e
  exact ⟨fun k ds d e => (key k ds d e).1, fun k ds d e => (key k ds d e).2⟩
end Go.Proofs.Ytbfmaicoefefaaa
