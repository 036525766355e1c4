/- Types as data of the evaluator over unknown data. -/
import Derived.Test.YtbfmaicoefefaaaPvW
import Derived.Test.YtbfmaicoefefaaaTyP
import Derived.KernelRfl
set_option linter.unusedSimpArgs false
set_option linter.unusedVariables false
namespace Go.Proofs.Ytbfmaicoefefaaa
open Go.RowKit Pv
set_option maxRecDepth 100000
noncomputable def TT : TP := fun _ => Try.prog
def strD (s : ByteArray) : D := .raw (.string s)
mutual
def tyD : Ty5 → D
  | .mk k n nm ls ks => .agg [.raw (.int .i64 k), .raw (.int .i64 n), .raw (.string nm), .sl none 1 (ls.map strD), .sl none 5 (tysD ks)]
def tysD : List Ty5 → List D
  | [] => []
  | t :: r => tyD t :: tysD r
end
theorem tysD_map : ∀ ks : List Ty5, tysD ks = ks.map tyD
  | [] => rfl
  | t :: r => by simp [tysD, tysD_map r]
theorem strs_pure : ∀ ls : List ByteArray, pureL (ls.map strD) = some (ls.map strD)
  | [] => rfl
  | s :: r => by
    have := strs_pure r
    simp only [List.map_cons, pureL, this]
    rfl
mutual
theorem ty_pure : ∀ t : Ty5, pureD (tyD t) = some (tyD t)
  | .mk k n nm ls ks => by
    simp [tyD, pureD, pureL, strs_pure ls, tys_pure ks]
theorem tys_pure : ∀ ks : List Ty5, pureL (tysD ks) = some (tysD ks)
  | [] => rfl
  | t :: r => by simp [tysD, pureL, ty_pure t, tys_pure r]
end
theorem cons_pure {d : D} {r : List D} (h1 : pureD d = some d) (h2 : pureL r = some r) : pureL (d :: r) = some (d :: r) := by simp only [pureL, h1, h2]
theorem tup_pure {ds : List D} (h : pureL ds = some ds) : pureD (.tup ds) = some (.tup ds) := by simp only [pureD, h, Option.map_some]
theorem sl_pure {tag : Option Nat} {sz : Nat} {ds : List D} (h : pureL ds = some ds) : pureD (.sl tag sz ds) = some (.sl none sz ds) := by simp only [pureD, h, Option.map_some]
mutual
/-- What is pure has no ids. -/
theorem pure_idb (m : Nat) : ∀ d : D, pureD d = some d → idb m d = true
  | .any, e => by cases e
  | .raw _, _ => rfl
  | .sln _, _ => rfl
  | .agg ds, e => by
    simp only [pureD, Option.map_eq_some_iff] at e
    obtain ⟨es, h1, h2⟩ := e
    cases h2
    exact pure_idbL m ds h1
  | .tup ds, e => by
    simp only [pureD, Option.map_eq_some_iff] at e
    obtain ⟨es, h1, h2⟩ := e
    cases h2
    exact pure_idbL m ds h1
  | .sl tag sz ds, e => by
    simp only [pureD, Option.map_eq_some_iff] at e
    obtain ⟨es, h1, h2⟩ := e
    cases h2
    simp [idb, pure_idbL m ds h1]
  | .bx _ _, e => by cases e
  | .ms _ _ _, e => by cases e
  | .mp _ _ _ _, e => by cases e
  | .pe d off, e => by
    simp only [pureD, Option.map_eq_some_iff] at e
    obtain ⟨es, h1, h2⟩ := e
    cases h2
    exact pure_idb m d h1
  | .fn g a b, e => by
    simp only [pureD] at e
    split at e
    · rename_i a' b' h1 h2
      cases e
      simp [idb, pure_idbL m a h1, pure_idbL m b h2]
    · cases e
  | .ifc t d, e => by
    simp only [pureD, Option.map_eq_some_iff] at e
    obtain ⟨es, h1, h2⟩ := e
    cases h2
    exact pure_idb m d h1
theorem pure_idbL (m : Nat) : ∀ ds : List D, pureL ds = some ds → idbL m ds = true
  | [], _ => rfl
  | d :: ds, e => by
    simp only [pureL] at e
    split at e
    · rename_i d' ds' h1 h2
      cases e
      simp [idbL, pure_idb m d h1, pure_idbL m ds h2]
    · cases e
end
mutual
/-- What is pure is named as it was. -/
theorem pure_ren (f : Nat → Nat) : ∀ d : D, pureD d = some d → renD f d = d
  | .any, e => by cases e
  | .raw _, _ => rfl
  | .sln _, _ => rfl
  | .agg ds, e => by
    simp only [pureD, Option.map_eq_some_iff] at e
    obtain ⟨es, h1, h2⟩ := e
    cases h2
    simp [renD, pure_renL f ds h1]
  | .tup ds, e => by
    simp only [pureD, Option.map_eq_some_iff] at e
    obtain ⟨es, h1, h2⟩ := e
    cases h2
    simp [renD, pure_renL f ds h1]
  | .sl tag sz ds, e => by
    simp only [pureD, Option.map_eq_some_iff] at e
    obtain ⟨es, h1, h2⟩ := e
    cases h2
    simp [renD, pure_renL f ds h1]
  | .bx _ _, e => by cases e
  | .ms _ _ _, e => by cases e
  | .mp _ _ _ _, e => by cases e
  | .pe d off, e => by
    simp only [pureD, Option.map_eq_some_iff] at e
    obtain ⟨es, h1, h2⟩ := e
    cases h2
    simp [renD, pure_ren f d h1]
  | .fn g a b, e => by
    simp only [pureD] at e
    split at e
    · rename_i a' b' h1 h2
      cases e
      simp [renD, pure_renL f a h1, pure_renL f b h2]
    · cases e
  | .ifc t d, e => by
    simp only [pureD, Option.map_eq_some_iff] at e
    obtain ⟨es, h1, h2⟩ := e
    cases h2
    simp [renD, pure_ren f d h1]
theorem pure_renL (f : Nat → Nat) : ∀ ds : List D, pureL ds = some ds → renL f ds = ds
  | [], _ => rfl
  | d :: ds, e => by
    simp only [pureL] at e
    split at e
    · rename_i d' ds' h1 h2
      cases e
      simp [renL, pure_ren f d h1, pure_renL f ds h2]
    · cases e
end
/-! ### Types of the world as data -/
/-- Texts that fit. -/
def okT : Ty5 → Prop
  | .mk _ _ nm ls ks => nm.size ≤ maxLen ∧ (∀ s ∈ ls, s.size ≤ maxLen) ∧ okL ks
where okL : List Ty5 → Prop
  | [] => True
  | t :: r => okT t ∧ okL r
theorem okL_get : ∀ {ks : List Ty5}, okT.okL ks → ∀ t ∈ ks, okT t
  | [], _, t, h => by cases h
  | a :: r, h, t, ht => by
    rcases List.mem_cons.1 ht with rfl | ht
    · exact h.1
    · exact okL_get h.2 t ht
section
variable {C : Cx} {w : World}
theorem strs_in {ls : List ByteArray} {v : Value} (h : Rd C w (.sl none 1 (ls.map strD)) v) (hs : ∀ s ∈ ls, s.size ≤ maxLen) : StrsAt w v ls := by
  obtain ⟨⟨a, cap, rfl, hc1, hc2⟩, hx, _⟩ := h
  simp only [List.length_map] at *
  refine ⟨hs, by omega, ?_⟩
  by_cases h0 : 0 < ls.length
  · obtain ⟨b, off, cap', hv, _, hr⟩ := hx h0
    simp at hv
    obtain ⟨rfl, rfl⟩ := hv
    have hcell : ∀ j, j < ls.length → w.cell? ⟨b, off + j, none⟩ = some (.string (stAt ls j)) := fun j hj => by
      obtain ⟨u, k1, k2, _, k4⟩ := hr.get (i := j) (d := strD (stAt ls j)) (by rw [List.getElem?_map, List.getElem?_eq_getElem hj, stAt_get hj]; rfl)
      simp only [strD, Rd] at k1
      subst k1
      have := k4 0 (by simp [Value.cells])
      simpa [Value.cells] using this
    exact .inr ⟨b, off, cap, rfl, World.block_lt_of_cell? w _ (hcell 0 (by omega)), hcell⟩
  · have : ls = [] := List.eq_nil_of_length_eq_zero (by omega)
    subst this
    exact .inl ⟨a, cap, rfl, rfl⟩
mutual
theorem ty_in : ∀ (t : Ty5) {v : Value}, okT t → Rd C w (tyD t) v → ∃ v0 v1 v2 v3 v4, v = .agg #[v0, v1, v2, v3, v4] ∧ TyIn w t v0 v1 v2 v3 v4
  | .mk k n nm ls ks, v, ho, h => by
    obtain ⟨vs, rfl, u0, r0, rfl, q0, u1, r1, rfl, q1, u2, r2, rfl, q2, u3, r3, rfl, q3, u4, r4, rfl, q4, q5⟩ := h
    simp only [RdL] at q5
    subst q5
    simp only [Rd] at q0 q1 q2
    subst q0 q1 q2
    refine ⟨_, _, _, _, _, rfl, rfl, rfl, ⟨rfl, ho.1⟩, strs_in q3 ho.2.1, ?_⟩
    obtain ⟨⟨a, cap, rfl, hc1, hc2⟩, hx, _⟩ := q4
    have hl : (tysD ks).length = ks.length := by simp [tysD_map]
    rw [hl] at hc1 hx ⊢
    refine ⟨by omega, ?_⟩
    by_cases h0 : 0 < ks.length
    · obtain ⟨b, off, cap', hv, _, hr⟩ := hx h0
      simp at hv
      obtain ⟨rfl, rfl⟩ := hv
      exact .inr ⟨b, off, cap, rfl, tys_in ks b off ho.2.2 hr⟩
    · have : ks = [] := List.eq_nil_of_length_eq_zero (by omega)
      subst this
      exact .inl ⟨a, cap, rfl, rfl⟩
theorem tys_in : ∀ (ks : List Ty5) (b off : Nat), okT.okL ks → RdE C w 5 (tysD ks) (fun i => w.cell? ⟨b, off + i, none⟩) → RowIn w b off ks
  | [], _, _, _, _ => trivial
  | t :: r, b, off, ho, ⟨⟨u, k1, k2, _, k4⟩, hr⟩ => by
    obtain ⟨v0, v1, v2, v3, v4, rfl, hT⟩ := ty_in t ho.1 k1
    refine ⟨⟨v0, v1, v2, v3, v4, ?_, ?_, ?_, ?_, ?_, hT⟩, tys_in r b (off + 5) ho.2 (by simpa only [Nat.add_assoc] using hr)⟩
    · simpa [Value.cells] using k4 0 (by simp [Value.cells])
    · simpa [Value.cells] using k4 1 (by simp [Value.cells])
    · simpa [Value.cells] using k4 2 (by simp [Value.cells])
    · simpa [Value.cells] using k4 3 (by simp [Value.cells])
    · simpa [Value.cells] using k4 4 (by simp [Value.cells])
end
end
/-- All of a world's cells. -/
def allS (w : World) : Nat → Nat → Prop := fun b _ => b < w.heap.size
theorem cell_size {w : World} {b o : Nat} {v : Value} (h : w.cell? ⟨b, o, none⟩ = some v) : b < w.heap.size := World.block_lt_of_cell? w _ h
theorem strs_rd {w : World} {v : Value} {ls : List ByteArray} (h : StrsAt w v ls) (hcap : ∀ a n c, v = .slice a n c → n ≤ c ∧ c ≤ maxLen) : Rd (bare (allS w)) w (.sl none 1 (ls.map strD)) v := by
  obtain ⟨hs, hm, h⟩ := h
  rcases h with ⟨a, cap, rfl, rfl⟩ | ⟨b, off, cap, rfl, hb, hc⟩
  · exact ⟨⟨a, cap, rfl, hcap _ _ _ rfl⟩, fun h0 => absurd h0 (by simp), fun id e => by cases e⟩
  · refine ⟨⟨some ⟨b, off, none⟩, cap, by simp, by simpa using hcap _ _ _ rfl⟩, fun h0 => ⟨b, off, cap, by simp, fun i hi => hb, ?_⟩, fun id e => by cases e⟩
    refine RdE.mk fun i d hd => ?_
    rw [List.getElem?_map, Option.map_eq_some_iff] at hd
    obtain ⟨s, h1, rfl⟩ := hd
    obtain ⟨hlt, h2⟩ := List.getElem?_eq_some_iff.1 h1
    refine ⟨.string s, rfl, rfl, fun c hc => by simp [Value.cells] at hc; subst hc; rfl, fun j hj => ?_⟩
    have : j = 0 := by simp [Value.cells] at hj; omega
    subst this
    rw [Nat.mul_one, Nat.add_zero, hc i hlt, stAt_get hlt, h2]
    rfl
/-- A call that yields a plain value. -/
theorem cp_raw {P : Program} {k : FuncId} {ds : List D} {u : Value} (hc : Callable P k) (h : ∀ (S : Nat → Nat → Prop) (w : World) (args : List Value), RdL (bare S) w ds args → Calls P k args.toArray w fun e w' => e = .returned u ∧ Below w.heap.size w w') : CP P k ds (· = .raw u) := by
  refine ⟨hc, fun S w args hS r => (h S w args r).mono ?_⟩
  rintro e w' ⟨rfl, hb⟩
  exact ⟨u, S, .raw u, rfl, rfl, hb, fun _ _ h => h, fun b o hs => ⟨Nat.lt_of_lt_of_le (hS b o hs) hb.size, fun _ => hs⟩, rfl⟩
theorem callable_at {k : FuncId} {fn : Func} {c : Code} (hf : Try.prog.funcs[k]? = some fn) (hn : (fn.name == "runtime.NumGoroutine") = false) (hb : fn.body = some c) : Callable Try.prog k := ⟨fn, c, hf, hn, hb⟩
theorem rdL_one {C : Cx} {w : World} {d : D} {args : List Value} (r : RdL C w [d] args) : ∃ v, args = [v] ∧ Rd C w d v := by
  obtain ⟨v, rest, rfl, h1, h2⟩ := r
  simp only [RdL] at h2
  subst h2
  exact ⟨v, rfl, h1⟩
theorem rdL_two {C : Cx} {w : World} {d d' : D} {args : List Value} (r : RdL C w [d, d'] args) : ∃ v v', args = [v, v'] ∧ Rd C w d v ∧ Rd C w d' v' := by
  obtain ⟨v, rest, rfl, h1, h2⟩ := r
  obtain ⟨v', rfl, h3⟩ := rdL_one h2
  exact ⟨v, v', rfl, h1, h3⟩
end Go.Proofs.Ytbfmaicoefefaaa
