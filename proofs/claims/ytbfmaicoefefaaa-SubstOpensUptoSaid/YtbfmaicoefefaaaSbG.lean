/- ty.Nodes and ty.Fits of the program, slices.Index, slices.IndexFunc and slices.Clone, as contracts over data. -/
import Derived.Test.YtbfmaicoefefaaaPvF
import Derived.Test.YtbfmaicoefefaaaSbT
import Derived.Test.YtbfmaicoefefaaaTyC
import Derived.WalkKit
import Derived.Lib.SliceRun
import Derived.Lib.Walk
set_option linter.unusedSimpArgs false
set_option linter.unusedVariables false
namespace Go.Proofs.Ytbfmaicoefefaaa
open Go.RowKit Pv
set_option maxRecDepth 100000
theorem pnodesq_cp (a : Ty5) (ha : okT a) (hn : nodesT a ≤ 1000000) : CP (TT ()) 15 [tyD a] (· = .raw (.int .i64 (nodesT a))) :=
  cp_raw (callable_at Try.func15 (by kernel_rfl) rfl) fun S w args r => by
    obtain ⟨v, rfl, h⟩ := rdL_one r
    obtain ⟨v0, v1, v2, v3, v4, rfl, hT⟩ := ty_in a ha h
    exact pnodes_any a _ _ _ _ _ w hT hn
theorem pfitsq_cp (a : Ty5) (ha : okT a) : CP (TT ()) 24 [tyD a] (· = .raw (.bool (decide (nodesT a ≤ 300)))) :=
  cp_raw (callable_at Try.func24 (by kernel_rfl) rfl) fun S w args r => by
    obtain ⟨v, rfl, h⟩ := rdL_one r
    obtain ⟨v0, v1, v2, v3, v4, rfl, hT⟩ := ty_in a ha h
    exact pfits_any a _ _ _ _ _ w hT
/-- A type's five cells. -/
def tyF (t : Ty5) : List D := leavesD (tyD t)
theorem tyF_len (t : Ty5) : (tyF t).length = 5 := by
  obtain ⟨k, n, nm, ls, ks⟩ := t
  rfl
theorem tyF_agg (t : Ty5) : tyD t = .agg (tyF t) := by
  obtain ⟨k, n, nm, ls, ks⟩ := t
  rfl
theorem row_cells {C : Cx} {w : World} : ∀ {ks : List Ty5} {f : Nat → Option Value}, RdE C w 5 (tysD ks) f → ∃ us : List Value, us.length = ks.length * 5 ∧ (∀ j, j < ks.length * 5 → f j = us[j]?) ∧ (∀ c ∈ us, c.oneCell' = true) ∧ RdL C w (ks.map tyF).flatten us
  | [], _, _ => ⟨[], rfl, fun j hj => absurd hj (by simp), fun c hc => (by cases hc), rfl⟩
  | t :: r, f, h => by
    simp only [tysD] at h
    obtain ⟨⟨u, h1, h2, h3, h4⟩, h5⟩ := h
    obtain ⟨us, k1, k2, k3, k4⟩ := row_cells h5
    rw [tyF_agg] at h1
    obtain ⟨vs, rfl, r1⟩ := h1
    have hl : vs.length = 5 := by rw [← r1.len, tyF_len]
    refine ⟨vs ++ us, by simp [hl, k1]; omega, fun j hj => ?_, fun c hc => ?_, ?_⟩
    · by_cases h5 : j < 5
      · have hj' : j < (Value.agg vs.toArray).cells.size := by simpa [Value.cells, hl] using h5
        rw [h4 j hj', List.getElem?_append_left (by omega), List.getElem?_eq_getElem (by omega)]
        simp [Value.cells]
      · rw [List.getElem?_append_right (by omega), hl, ← k2 (j - 5) (by simp at hj; omega)]
        show f j = f (5 + (j - 5))
        rw [show 5 + (j - 5) = j by omega]
    · rcases List.mem_append.1 hc with h | h
      · exact h3 c (by simpa [Value.cells] using h)
      · exact k3 c h
    · simp only [List.map_cons, List.flatten_cons]
      exact r1.app k4
def zeroF : List D := [.raw (.int .i64 0), .raw (.int .i64 0), .raw (.string ⟨#[]⟩), .raw (.slice none 0 0), .raw (.slice none 0 0)]
theorem wpList_app_eq {P : Program} {ops : Array Oper} {rest : List Oper} {o : Oper} {a : Act} {Q : Exit → Act → World → Prop} {w w' : World} {v u v' : Value} (hgd : o.guard = none) (s x : Operand) (t : TypeId)
    (ho : o.op = .call { callee := .builtin .append, args := #[s, x], argTypes := #[t, t] }) (hs : a.eval s = v) (hx : a.eval x = u) (hr : (Builtin.append_ #[t, t] o.type #[v, u]).run P w = .ok v' w')
    (h : wpList P ops Q rest (a.put o.dst v') w') : wpList P ops Q (o :: rest) a w :=
  wpList_plain hgd fun _ hK => by
    unfold Oper.wp execOp
    simp only [ho, resolve, invoke, builtin, Sem.run_bind, Sem.run_pure, Result.andThen_ok, List.map_toArray, List.map_cons, List.map_nil, hs, hx, hr]
    exact hK _ _ h
theorem info_ty : ∃ i z, Try.prog.info? 25 = some i ∧ i.zero = some z ∧ i.size = 5 ∧ i.bytes = 80 ∧ z.cells = #[.int .i64 0, .int .i64 0, .string ⟨#[]⟩, .slice none 0 0, .slice none 0 0] := by
  obtain ⟨inf, h1, h2, h3, h4, h5⟩ := (el_tys : ElemIs (TT ()) _ _ _ _).out
  have hz : zeroD Try.prog 25 = some zeroF := by kernel_rfl
  obtain ⟨i, z, k1, k2, k3, k4⟩ := zeroD_some hz
  have h1' := (elemP_some h1).2
  rw [show TT () = Try.prog from rfl] at h1'
  rw [h1'] at k1
  cases k1
  refine ⟨inf, z, h1', k2, h2, h3, ?_⟩
  apply Array.ext'
  have e : z.cells.toList.map D.raw = [Value.int .i64 0, .int .i64 0, .string ⟨#[]⟩, .slice none 0 0, .slice none 0 0].map D.raw := k4.symm
  have e2 := congrArg (List.map fun d => match d with | D.raw v => v | _ => undef) e
  have e3 : ((fun d => match d with | D.raw v => v | _ => undef) ∘ D.raw) = id := by funext v; rfl
  simpa [e3] using e2
set_option maxHeartbeats 2000000 in
set_option maxRecDepth 100000 in
theorem clone_any (b off n c : Nat) (us : List Value) (w : World) (hn : 0 < n) (hbig : n * 80 ≤ 140737488355328) (hl : us.length = n * 5) (hc : ∀ j u, us[j]? = some u → w.cell? ⟨b, off + j, none⟩ = some u) :
    Calls Try.prog 86 #[.slice (some ⟨b, off, none⟩) n c] w fun e w' => ∃ cap, n ≤ cap ∧ cap ≤ maxLen ∧ e = .returned (.slice (some ⟨w.heap.size + 1, 0, none⟩) n cap) ∧
      w' = ((w.alloc (.cells #[] 25)).drew.alloc (.cells (us.toArray ++ Builtin.zeroCells #[.int .i64 0, .int .i64 0, .string ⟨#[]⟩, .slice none 0 0, .slice none 0 0] (cap - n)) 25)) := by
  obtain ⟨i, z, hi, hz, hs, hb, hzc⟩ := info_ty
  have hu := Try.underlying23
  have q : ∀ (w : World) (a : Option Addr) (n c n' c' : Nat), (binOp .eql 23 (.slice a n c) (.slice none n' c')).run Try.prog w = .ok (.bool a.isNone) w := fun w a n c n' c' => Lib.run_eql_slice_nil w _ _ a n c n' c' hu
  have hrun := run_append_grow (P := Try.prog) (w := w.alloc (.cells #[] 25)) 23 23 25 i z hu hi hz ⟨w.heap.size, 0, none⟩ 0 0 [] (by simp) (by simp) ⟨b, off, none⟩ n c us (by rw [hs]; exact hl) (fun j u hj => by
    rw [Addr.add_lit]
    exact Lib.cell?_alloc_some _ (hc j u hj)) (by omega) (by simp only [Nat.zero_add]; omega) (growslice_fits (by omega) (by rw [hb, Nat.zero_add]; exact hbig))
  simp only [Nat.zero_add, List.nil_append, Array.empty_append, hzc] at hrun
  have hge := grownCap_ge (w.alloc (.cells #[] 25)) n 0 25
  have hle := grownCap_le_maxLen (w.alloc (.cells #[] 25)) n 0 25 (by unfold maxLen; omega)
  have A : Asd (∀ j u, us[j]? = some u → w.cell? ⟨b, off + j, none⟩ = some u) := ⟨hc⟩
  clear hc
  go_enter Try.func86, Try.ntmps86
  go_wp2_with (at_builtin; refine wpList_app_eq rfl _ _ 23 rfl rfl rfl hrun ?_)
  go_wp2
  go_ret
  exact ⟨_, hge, hle, by simp, rfl⟩
theorem zero_rep : ∀ m : Nat, (Builtin.zeroCells #[Value.int .i64 0, .int .i64 0, .string ⟨#[]⟩, .slice none 0 0, .slice none 0 0] m).toList.map D.raw = (List.replicate m zeroF).flatten := fun m => by
  have h := range_flat (#[Value.int .i64 0, .int .i64 0, .string ⟨#[]⟩, .slice none 0 0, .slice none 0 0] : Array Value) m
  unfold Builtin.zeroCells
  rw [Array.toList_map, Array.toList_range]
  refine (congrArg (List.map D.raw) h).trans ?_
  rw [List.map_flatten, List.map_replicate]
  rfl
set_option maxRecDepth 20000 in
/-- A row of types, cloned: it may be turned. -/
theorem clone_cw (h : H) (ks : List Ty5) (h0 : ks ≠ []) (hn : ks.length ≤ 1000000) : CW (TT ()) 86 [.sl none 5 (tysD ks)] h fun d h' => ∃ m, d = .ms h.length 0 ks.length ∧ h' = h ++ [.box 25 (ks.map tyF ++ List.replicate m zeroF).flatten] := by
  refine ⟨callable_at Try.func86 (by kernel_rfl) rfl, fun C w args s r => ?_⟩
  obtain ⟨v, rfl, hv⟩ := rdL_one r
  have hl : (tysD ks).length = ks.length := tys_len ks
  have hpos : 0 < ks.length := List.length_pos_iff.2 h0
  obtain ⟨_, h2, _⟩ := hv
  obtain ⟨b, off, cap, rfl, _, hr⟩ := h2 (by omega)
  obtain ⟨us, k1, k2, k3, k4⟩ := row_cells hr
  rw [hl]
  refine (clone_any b off ks.length cap us w hpos (by omega) k1 fun j u hj => ?_).mono ?_
  · have hlt := (List.getElem?_eq_some_iff.1 hj).1
    rw [k2 j (by omega)]
    exact hj
  rintro e w' ⟨cp, hc1, hc2, rfl, rfl⟩
  -- the two new blocks
  have s1 := s.alloc (.cells #[] 25) (fun _ => False)
  have f1 := Fw.alloc s (.cells #[] 25) (fun _ => False)
  obtain ⟨s2, f2⟩ := s1.drew
  have hzl : ∀ u ∈ (Builtin.zeroCells #[Value.int .i64 0, .int .i64 0, .string ⟨#[]⟩, .slice none 0 0, .slice none 0 0] (cp - ks.length)).toList, u.oneCell' = true := fun u hu => by
    have : D.raw u ∈ (List.replicate (cp - ks.length) zeroF).flatten := by rw [← zero_rep]; exact List.mem_map_of_mem hu
    obtain ⟨l, hl1, hl2⟩ := List.mem_flatten.1 this
    rw [List.eq_of_mem_replicate hl1] at hl2
    simp [zeroF] at hl2
    rcases hl2 with rfl | rfl | rfl <;> rfl
  obtain ⟨C', f3, s3, hb⟩ := s2.box_new 25 (vs := us.toArray ++ Builtin.zeroCells #[.int .i64 0, .int .i64 0, .string ⟨#[]⟩, .slice none 0 0, .slice none 0 0] (cp - ks.length)) (ds := (ks.map tyF ++ List.replicate (cp - ks.length) zeroF).flatten) (by
    rw [Array.toList_append, List.flatten_append]
    refine (k4.mono (f1.trans f2).toEv).app ?_
    rw [← zero_rep]
    exact RdL.raws _ _ _) (fun u hu => by
    rw [Array.toList_append] at hu
    rcases List.mem_append.1 hu with hu | hu
    · exact k3 u hu
    · exact hzl u hu)
  refine ⟨_, C', _, _, rfl, ⟨_, rfl, rfl⟩, (f1.trans f2).trans f3, s3, ⟨_, cp, hb, ?_, hc1, hc2⟩⟩
  simp
end Go.Proofs.Ytbfmaicoefefaaa
