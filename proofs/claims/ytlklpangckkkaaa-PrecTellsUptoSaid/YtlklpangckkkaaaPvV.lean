/- A drawn region that copies a row: an append to an empty row of a literal, stored at once. What comes may be turned. -/
import Derived.Test.YtlklpangckkkaaaPvU
/-! ## Part 23 -/
namespace Go.Proofs.Ytlklpangckkkaaa.Pv
open Go Go.RowKit
section
variable {P : Program} {C : Cx} {h : H} {w : World}
theorem rows_cells {F : D → List D} {sz : Nat} : ∀ {ys : List D} {f : Nat → Option Value}, (∀ y ∈ ys, y = .agg (F y)) → RdE C w sz ys f → ∃ us : List Value, us.length = ys.length * sz ∧ (∀ j, j < ys.length * sz → f j = us[j]?) ∧ (∀ c ∈ us, c.oneCell' = true) ∧ RdL C w (ys.map F).flatten us
  | [], _, _, _ => ⟨[], by simp, fun j hj => absurd hj (by simp), fun c hc => (by cases hc), rfl⟩
  | t :: r, f, hF, h => by
    obtain ⟨⟨u, h1, h2, h3, h4⟩, h5⟩ := h
    obtain ⟨us, k1, k2, k3, k4⟩ := rows_cells (fun y hy => hF y (List.mem_cons_of_mem _ hy)) h5
    rw [hF t (List.mem_cons_self ..)] at h1
    obtain ⟨vs, rfl, r1⟩ := h1
    have hl : vs.length = sz := by simpa [Value.cells] using h2
    refine ⟨vs ++ us, by simp [hl, k1, Nat.add_mul]; omega, fun j hj => ?_, fun c hc => ?_, ?_⟩
    · by_cases h5 : j < sz
      · have hj' : j < (Value.agg vs.toArray).cells.size := by simpa [Value.cells, hl] using h5
        rw [h4 j hj', List.getElem?_append_left (by omega), List.getElem?_eq_getElem (by omega)]
        simp [Value.cells]
      · rw [List.getElem?_append_right (by omega), hl, ← k2 (j - sz) (by simp [Nat.add_mul] at hj; omega)]
        show f j = f (sz + (j - sz))
        rw [show sz + (j - sz) = j by omega]
    · rcases List.mem_append.1 hc with h | h
      · exact h3 c (by simpa [Value.cells] using h)
      · exact k3 c h
    · simp only [List.map_cons, List.flatten_cons]
      exact r1.app k4
theorem zeros_rep (z : Array Value) (m : Nat) : (Builtin.zeroCells z m).toList.map D.raw = (List.replicate m (z.toList.map D.raw)).flatten := by
  have h := range_flat z m
  unfold Builtin.zeroCells
  rw [Array.toList_map, Array.toList_range]
  refine (congrArg (List.map D.raw) h).trans ?_
  rw [List.map_flatten, List.map_replicate]
/-- An append to a row of no room. -/
theorem append_fresh (s : Sim C h w) {t ty e : TypeId} {inf : TypeInfo} {zs ys : List D} {tag : Option Nat} (ht : P.underlying t = some (.slice e)) (hi : P.info? e = some inf) (hz : zeroD P e = some zs) (hsz : 0 < inf.size)
    {v : Value} (hv : Rd C w (.sl tag inf.size ys) v) (hn : 0 < ys.length) (hr1 : ys.length ≤ 140737488355328) (hr2 : ys.length * inf.bytes ≤ 140737488355328) {F : D → List D} (hF : ∀ y ∈ ys, y = .agg (F y)) (b0 : Nat) :
    ∃ v' C' w' m, (Builtin.append_ #[t, t] ty #[.slice (some ⟨b0, 0, none⟩) 0 0, v]).run P w = .ok v' w' ∧ Fw C w C' w' ∧ Sim C' (h ++ [.box e (ys.map F ++ List.replicate m zs).flatten]) w' ∧ Rd C' w' (.ms h.length 0 ys.length) v' := by
  obtain ⟨i, z, hi2, hz2, hz3, hz4⟩ := zeroD_some hz
  rw [hi] at hi2
  cases hi2
  obtain ⟨_, h2, _⟩ := hv
  obtain ⟨b, off, cap, rfl, _, hr⟩ := h2 hn
  obtain ⟨us, k1, k2, k3, k4⟩ := rows_cells hF hr
  have hrun := run_append_grow (P := P) (w := w) t ty e inf z ht hi hz2 ⟨b0, 0, none⟩ 0 0 [] (by simp) (by simp) ⟨b, off, none⟩ ys.length cap us k1 (fun j u hj => by
    rw [Addr.add_lit]
    have hlt := (List.getElem?_eq_some_iff.1 hj).1
    exact (k2 j (by omega)).trans hj) (by omega) (by simp only [Nat.zero_add]; omega) (growslice_fits (by omega) (by rw [Nat.zero_add]; exact hr2))
  simp only [Nat.zero_add, List.nil_append, Array.empty_append] at hrun
  have hge := grownCap_ge w ys.length 0 e
  have hle := grownCap_le_maxLen w ys.length 0 e (by unfold maxLen; omega)
  obtain ⟨s2, f2⟩ := s.drew
  obtain ⟨C', f3, s3, hb⟩ := s2.box_new e (vs := us.toArray ++ Builtin.zeroCells z.cells (grownCap w ys.length 0 e - ys.length)) (ds := (ys.map F ++ List.replicate (grownCap w ys.length 0 e - ys.length) zs).flatten) (by
    rw [Array.toList_append, List.flatten_append]
    refine (k4.mono f2.toEv).app ?_
    rw [hz4, ← zeros_rep]
    exact RdL.raws _ _ _) (fun u hu => by
    rw [Array.toList_append] at hu
    rcases List.mem_append.1 hu with hu | hu
    · exact k3 u (by simpa using hu)
    · have : D.raw u ∈ (List.replicate (grownCap w ys.length 0 e - ys.length) (z.cells.toList.map D.raw)).flatten := by rw [← zeros_rep]; exact List.mem_map_of_mem hu
      obtain ⟨l, hl1, hl2⟩ := List.mem_flatten.1 this
      rw [List.eq_of_mem_replicate hl1] at hl2
      obtain ⟨u', hu', e'⟩ := List.mem_map.1 hl2
      cases e'
      exact hz3 _ hu')
  exact ⟨_, C', _, _, hrun, f2.trans f3, s3, ⟨_, _, hb, rfl, hge, hle⟩⟩
end
def copyB (l : List Oper) : Bool :=
  let r := Region.ready .any l.toArray
  let L := Array.replicate 6 false
  let A := (L.setIfInBounds 0 true).setIfInBounds 1 true
  let B := (L.setIfInBounds 1 true).setIfInBounds 0 true
  let D := (L.setIfInBounds 1 true).setIfInBounds 2 true
  let fin := fun X : Array Bool => r X == [3] && (r (X.setIfInBounds 3 true) == [4] && (r ((X.setIfInBounds 3 true).setIfInBounds 4 true) == [5] && r (((X.setIfInBounds 3 true).setIfInBounds 4 true).setIfInBounds 5 true) == []))
  r L == [0, 1] && (r (L.setIfInBounds 0 true) == [1] && (r (L.setIfInBounds 1 true) == [0, 2] && (r A == [2] && (r B == [2] && (r D == [0] && (fin (A.setIfInBounds 2 true) && (fin (B.setIfInBounds 2 true) && fin (D.setIfInBounds 0 true))))))))
theorem DrawK.copy {T : TP} {l : List Oper} {ts : List D} {h : H} {K : List D → H → Prop} {o0 o1 o2 o3 o4 o5 : Oper} {d0 d1 d2 d3 : Tmp} {t e : Nat} {sz bytes : Nat} {tag : Option Nat} {ys zs : List D} {x1 : D}
    (hm : (T ()).follows .mixedOrders = true) (he : ElemIs (T ()) t e sz bytes) (hz : zeroD (T ()) e = some zs) (F : D → List D) (hb : copyB l = true) (hl : l = [o0, o1, o2, o3, o4, o5])
    (a1 : o0.op = .buildSlice t 0 #[]) (a2 : o0.guard = none) (a3 : o0.dst = some d0) (b2 : o1.guard = none) (b3 : o1.dst = some d1) (c2 : o2.guard = none) (c3 : o2.dst = some d2)
    (e1 : o3.op = .call { callee := .builtin .append, args := #[.tmp d0, .tmp d2], argTypes := #[t, t] }) (e2 : o3.guard = none) (e3 : o3.dst = some d3)
    (hls : leafSize (T ()) e = true) (hbr : buildRow (T ()) t 0 [] = some (e, sz, []))
    (s1 : sop (T ()) (dv ts) o1 h = some x1) (s2 : sop (T ()) (dv (ts.set d1 x1)) o2 h = some (.sl tag sz ys)) (s1' : sop (T ()) (dv (ts.set d0 .any)) o1 h = some x1) (s2' : sop (T ()) (dv ((ts.set d0 .any).set d1 x1)) o2 h = some (.sl tag sz ys))
    (n1 : d0 ≠ d1) (n2 : d0 ≠ d2) (n3 : d1 ≠ d2) (n4 : Nat.blt d0 ts.length = true) (n5 : Nat.blt d2 ts.length = true)
    (hn : 0 < ys.length) (hr1 : ys.length ≤ 140737488355328) (hr2 : ys.length * bytes ≤ 140737488355328) (hF : ∀ y ∈ ys, y = .agg (F y))
    (k : ∀ m E, E = ys.map F ++ List.replicate m zs → wlist T l.toArray [o4, o5] ((((ts.set d0 .any).set d1 x1).set d2 (.sl tag sz ys)).set d3 (.ms h.length 0 ys.length)) (h ++ [.box e E.flatten]) K) : DrawK T l ts h K := by
  refine ⟨.inr (.inr (.inr fun id C w a Q S ta hk => wp_region_any hm ?_))⟩
  obtain ⟨inf, g1, rfl, rfl, g4⟩ := he.out
  obtain ⟨u1, u2⟩ := elemP_some g1
  have n4 : d0 < ts.length := by simpa [Nat.blt_eq] using n4
  have n5 : d2 < ts.length := by simpa [Nat.blt_eq] using n5
  have htl : ts.length = a.tmps.size := by have := ta.rd.len; simpa using this
  obtain ⟨S0, f0⟩ := S.drew
  have ta0 := ta.mono f0.toEv
  show wpAny _ _ _ _ _ _ _ w.drew
  -- the row of no elements, in any world
  have opB : ∀ {KK : Act → World → Prop} (aX : Act) (wX : World), KK (aX.put (some d0) (.slice (some ⟨wX.heap.size, 0, none⟩) 0 0)) (wX.alloc (.cells #[] e)) → o0.wp (T ()) aX wX KK Q := fun {KK} aX wX hK => by
    have hside : ∀ i dd, (T ()).info? e = some i → (T ()).underlying e = some dd → dd.isRow = false → i.size = 1 := fun i dd h1 h2 h3 => by
      unfold leafSize at hls
      rw [h1, h2] at hls
      simp only [Bool.or_eq_true, beq_iff_eq] at hls
      rcases hls with hls | hls
      · rw [h3] at hls; cases hls
      · exact hls
    have hp : PartsRd C wX [] (#[] : Array (Nat × Value)).toList := by
      refine ⟨fun j => by simp, fun j p q hp hq => by simp at hp⟩
    obtain ⟨cv, k1, k2, k3, k4, k5⟩ := buildRow_core (P := T ()) (w := wX) hp hbr hside
    have hcv : cv = #[] := Array.eq_empty_of_size_eq_zero (by simpa using k2)
    subst hcv
    refine wp_of_value (v := .slice (some ⟨wX.heap.size, 0, none⟩) 0 0) (w' := wX.alloc (.cells #[] e)) ?_ (by rw [a3]; exact hK)
    have he0 : ((#[] : Array (Nat × Operand)).map fun (i, x) => (i, aX.eval x)) = #[] := by simp
    simp only [execOp, a1, Sem.run_bind, he0, k1]
    rfl
  have at_ : ∀ {i : Nat} {o : Oper}, l[i]? = some o → l.toArray[i]? = some o := fun h => by simpa using h
  have q0 : l.toArray[0]? = some o0 := at_ (by rw [hl]; rfl)
  have q1 : l.toArray[1]? = some o1 := at_ (by rw [hl]; rfl)
  have q2 : l.toArray[2]? = some o2 := at_ (by rw [hl]; rfl)
  have q3 : l.toArray[3]? = some o3 := at_ (by rw [hl]; rfl)
  have q4 : l.toArray[4]? = some o4 := at_ (by rw [hl]; rfl)
  have q5 : l.toArray[5]? = some o5 := at_ (by rw [hl]; rfl)
  -- what comes behind the first three
  have fin : ∀ (L : Array Bool) (C1 : Cx) (w1 : World) (aX : Act) (b0 : Nat), (Region.ready .any l.toArray L = [3] ∧ Region.ready .any l.toArray (L.setIfInBounds 3 true) = [4] ∧ Region.ready .any l.toArray ((L.setIfInBounds 3 true).setIfInBounds 4 true) = [5] ∧ Region.ready .any l.toArray (((L.setIfInBounds 3 true).setIfInBounds 4 true).setIfInBounds 5 true) = []) →
      Fw C w C1 w1 → Sim C1 h w1 → TA C1 w1 (((ts.set d0 .any).set d1 x1).set d2 (.sl tag inf.size ys)) aX → aX.eval (.tmp d0) = .slice (some ⟨b0, 0, none⟩) 0 0 → wpAny (T ()) .any l.toArray Q 3 L aX w1 := fun L C1 w1 aX b0 ⟨r3, r4, r5, r6⟩ f1 sX tX hd0 => by
    have hv2 := tX.reads (.tmp d2)
    have e2' : dv (((ts.set d0 .any).set d1 x1).set d2 (.sl tag inf.size ys)) (.tmp d2) = .sl tag inf.size ys := by
      show (((ts.set d0 .any).set d1 x1).set d2 (.sl tag inf.size ys)).getD d2 .any = _
      simp [List.getD_eq_getElem?_getD, n5]
    rw [e2'] at hv2
    obtain ⟨v', C2, w2, m, j1, j2, j3, j4⟩ := append_fresh (P := T ()) (ty := o3.type) sX u1 u2 hz g4.1 hv2 hn hr1 hr2 hF b0
    refine any_step r3 (by simp) fun i hi => ?_
    obtain rfl : i = 3 := by simpa using hi
    refine op_at q3 e2 (wp_of_value (v := v') (w' := w2) ?_ ?_)
    · simp only [execOp, e1, Sem.run_bind, resolve, invoke, builtin, Sem.run_pure, Result.andThen_ok, List.map_toArray, List.map_cons, List.map_nil, hd0, j1]
    · have t2 := (tX.mono j2.toEv).put j4 (some d3)
      rw [e3]
      refine any_step r4 (by simp) fun i hi => ?_
      obtain rfl : i = 4 := by simpa using hi
      refine op_list q4 (wlist_sound (wlist_app (l' := [o5]) (k m _ rfl)) j3 t2 fun ts4 h4 a4 C4 w4 k4 f4 s4 t4 => ?_)
      refine any_step r5 (by simp) fun i hi => ?_
      obtain rfl : i = 5 := by simpa using hi
      refine op_list q5 (wlist_sound k4 s4 t4 fun ts5 h5 a5 C5 w5 k5 f5 s5 t5 => ?_)
      exact ⟨r6, hk _ _ _ _ _ k5 ((((f1.trans j2)).trans f4).trans f5) s5 t5⟩
  simp only [copyB, Bool.and_eq_true, beq_iff_eq] at hb
  obtain ⟨r0, r1, r2, rA, rB, rD, hA, hB, hD⟩ := hb
  have hsize : l.toArray.size = 6 := by rw [hl]; rfl
  rw [hsize]
  have alX := fun {C1 : Cx} {w1 : World} (sX : Sim C1 h w1) => And.intro (sX.alloc (.cells #[] e) (fun _ => False)) (Fw.alloc sX (.cells #[] e) (fun _ => False))
  have lt0 : ∀ {aX : Act}, aX.tmps.size = a.tmps.size → d0 < aX.tmps.size := fun h => by rw [h, ← htl]; exact n4
  refine any_step r0 (by simp) fun i hi => ?_
  rcases (by simpa using hi : i = 0 ∨ i = 1) with rfl | rfl
  · refine op_at q0 a2 (opB _ _ ?_)
    obtain ⟨S1, F1⟩ := alX S0
    have t1 := (ta0.mono F1.toEv).put (d := .any) (v := .slice (some ⟨w.drew.heap.size, 0, none⟩) 0 0) trivial (some d0)
    refine any_step r1 (by simp) fun i hi => ?_
    obtain rfl : i = 1 := by simpa using hi
    obtain ⟨v1, y1, y2⟩ := sop_sound S1 t1.reads s1'
    refine op_at q1 b2 (wp_of_value y1 ?_)
    rw [b3]
    have t2 := t1.put y2 (some d1)
    refine any_step rA (by simp) fun i hi => ?_
    obtain rfl : i = 2 := by simpa using hi
    obtain ⟨v2, y3, y4⟩ := sop_sound S1 t2.reads s2'
    refine op_at q2 c2 (wp_of_value y3 ?_)
    rw [c3]
    refine fin _ _ _ _ w.drew.heap.size hA (f0.trans F1) S1 (t2.put y4 (some d2)) ?_
    rw [eval_put_ne (fun e => n2 (by cases e; rfl)), eval_put_ne (fun e => n1 (by cases e; rfl))]
    exact eval_put_eq (lt0 rfl)
  · obtain ⟨v1, y1, y2⟩ := sop_sound S0 ta0.reads s1
    refine op_at q1 b2 (wp_of_value y1 ?_)
    rw [b3]
    have t1 := ta0.put y2 (some d1)
    refine any_step r2 (by simp) fun i hi => ?_
    rcases (by simpa using hi : i = 0 ∨ i = 2) with rfl | rfl
    · refine op_at q0 a2 (opB _ _ ?_)
      obtain ⟨S1, F1⟩ := alX S0
      have t2 := (t1.mono F1.toEv).put (d := .any) (v := .slice (some ⟨w.drew.heap.size, 0, none⟩) 0 0) trivial (some d0)
      have t2' := t2
      rw [show putD (putD ts (some d1) x1) (some d0) .any = (ts.set d0 .any).set d1 x1 from List.set_comm _ _ (fun e => n1 e.symm)] at t2'
      refine any_step rB (by simp) fun i hi => ?_
      obtain rfl : i = 2 := by simpa using hi
      obtain ⟨v2, y3, y4⟩ := sop_sound S1 t2'.reads s2'
      refine op_at q2 c2 (wp_of_value y3 ?_)
      rw [c3]
      refine fin _ _ _ _ w.drew.heap.size hB (f0.trans F1) S1 (t2'.put y4 (some d2)) ?_
      rw [eval_put_ne (fun e => n2 (by cases e; rfl))]
      exact eval_put_eq (by rw [show (a.put (some d1) v1).tmps.size = a.tmps.size from Array.size_setIfInBounds ..]; exact lt0 rfl)
    · obtain ⟨v2, y3, y4⟩ := sop_sound S0 t1.reads s2
      refine op_at q2 c2 (wp_of_value y3 ?_)
      rw [c3]
      have t2 := t1.put y4 (some d2)
      refine any_step rD (by simp) fun i hi => ?_
      obtain rfl : i = 0 := by simpa using hi
      refine op_at q0 a2 (opB _ _ ?_)
      obtain ⟨S1, F1⟩ := alX S0
      have t3 := (t2.mono F1.toEv).put (d := .any) (v := .slice (some ⟨w.drew.heap.size, 0, none⟩) 0 0) trivial (some d0)
      have t3' := t3
      rw [show putD (putD (putD ts (some d1) x1) (some d2) (.sl tag inf.size ys)) (some d0) .any = ((ts.set d0 .any).set d1 x1).set d2 (.sl tag inf.size ys) from (List.set_comm _ _ (fun e => n2 e.symm)).trans (congrArg (fun l => List.set l d2 (D.sl tag inf.size ys)) (List.set_comm _ _ (fun e => n1 e.symm)))] at t3'
      refine fin _ _ _ _ w.drew.heap.size hD (f0.trans F1) S1 t3' ?_
      exact eval_put_eq (by rw [show ((a.put (some d1) v1).put (some d2) v2).tmps.size = a.tmps.size from (Array.size_setIfInBounds ..).trans (Array.size_setIfInBounds ..)]; exact lt0 rfl)
/-- The same in a region of one order. -/
theorem RegK.copy {T : TP} {ops : Array Oper} {ts : List D} {h : H} {K : List D → H → Prop} {o0 o1 o2 o3 : Oper} {rest : List Oper} {d0 d1 d2 d3 : Tmp} {t e : Nat} {sz bytes : Nat} {tag : Option Nat} {ys zs : List D} {x1 : D}
    (he : ElemIs (T ()) t e sz bytes) (hz : zeroD (T ()) e = some zs) (F : D → List D) (hl : ops.toList = o0 :: o1 :: o2 :: o3 :: rest)
    (a1 : o0.op = .buildSlice t 0 #[]) (a2 : o0.guard = none) (a3 : o0.dst = some d0) (b2 : o1.guard = none) (b3 : o1.dst = some d1) (c2 : o2.guard = none) (c3 : o2.dst = some d2)
    (e1 : o3.op = .call { callee := .builtin .append, args := #[.tmp d0, .tmp d2], argTypes := #[t, t] }) (e2 : o3.guard = none) (e3 : o3.dst = some d3)
    (hls : leafSize (T ()) e = true) (hbr : buildRow (T ()) t 0 [] = some (e, sz, []))
    (s1 : sop (T ()) (dv (ts.set d0 .any)) o1 h = some x1) (s2 : sop (T ()) (dv ((ts.set d0 .any).set d1 x1)) o2 h = some (.sl tag sz ys))
    (n1 : d0 ≠ d1) (n2 : d0 ≠ d2) (n4 : Nat.blt d0 ts.length = true) (n5 : Nat.blt d2 ts.length = true)
    (hn : 0 < ys.length) (hr1 : ys.length ≤ 140737488355328) (hr2 : ys.length * bytes ≤ 140737488355328) (hF : ∀ y ∈ ys, y = .agg (F y))
    (k : ∀ m E, E = ys.map F ++ List.replicate m zs → wlist T ops rest ((((ts.set d0 .any).set d1 x1).set d2 (.sl tag sz ys)).set d3 (.ms h.length 0 ys.length)) (h ++ [.box e E.flatten]) K) : RegK T ops ts h K := by
  refine ⟨.inr fun C w a Q S ta hk => ?_⟩
  obtain ⟨inf, g1, rfl, rfl, g4⟩ := he.out
  obtain ⟨u1, u2⟩ := elemP_some g1
  have n4 : d0 < ts.length := by simpa [Nat.blt_eq] using n4
  have n5 : d2 < ts.length := by simpa [Nat.blt_eq] using n5
  have htl : ts.length = a.tmps.size := by have := ta.rd.len; simpa using this
  rw [hl]
  have lst : ∀ {o : Oper} {rest : List Oper} {aX : Act} {wX : World}, o.guard = none → o.wp (T ()) aX wX (wpList (T ()) ops Q rest) Q → wpList (T ()) ops Q (o :: rest) aX wX := fun hg h => by
    unfold wpList
    rw [if_pos (by simp [Region.wanted, hg])]
    exact .inl h
  have hside : ∀ i dd, (T ()).info? e = some i → (T ()).underlying e = some dd → dd.isRow = false → i.size = 1 := fun i dd h1 h2 h3 => by
    unfold leafSize at hls
    rw [h1, h2] at hls
    simp only [Bool.or_eq_true, beq_iff_eq] at hls
    rcases hls with hls | hls
    · rw [h3] at hls; cases hls
    · exact hls
  have hp : PartsRd C w [] (#[] : Array (Nat × Value)).toList := by
    refine ⟨fun j => by simp, fun j p q hp hq => by simp at hp⟩
  obtain ⟨cv, k1, k2, k3, k4, k5⟩ := buildRow_core (P := T ()) (w := w) hp hbr hside
  have hcv : cv = #[] := Array.eq_empty_of_size_eq_zero (by simpa using k2)
  subst hcv
  have he0 : ((#[] : Array (Nat × Operand)).map fun (i, x) => (i, a.eval x)) = #[] := by simp
  refine lst a2 (wp_of_value (v := .slice (some ⟨w.heap.size, 0, none⟩) 0 0) (w' := w.alloc (.cells #[] e)) (by
    simp only [execOp, a1, Sem.run_bind, he0, k1]
    rfl) ?_)
  rw [a3]
  have S1 := S.alloc (.cells #[] e) (fun _ => False)
  have F1 := Fw.alloc S (.cells #[] e) (fun _ => False)
  have t1 := (ta.mono F1.toEv).put (d := .any) (v := .slice (some ⟨w.heap.size, 0, none⟩) 0 0) trivial (some d0)
  obtain ⟨v1, y1, y2⟩ := sop_sound S1 t1.reads s1
  refine lst b2 (wp_of_value y1 ?_)
  rw [b3]
  have t2 := t1.put y2 (some d1)
  obtain ⟨v2, y3, y4⟩ := sop_sound S1 t2.reads s2
  refine lst c2 (wp_of_value y3 ?_)
  rw [c3]
  have tX := t2.put y4 (some d2)
  have hd0 : (((a.put (some d0) (.slice (some ⟨w.heap.size, 0, none⟩) 0 0)).put (some d1) v1).put (some d2) v2).eval (.tmp d0) = .slice (some ⟨w.heap.size, 0, none⟩) 0 0 := by
    rw [eval_put_ne (fun e => n2 (by cases e; rfl)), eval_put_ne (fun e => n1 (by cases e; rfl))]
    exact eval_put_eq (by rw [← htl]; exact n4)
  have hv2 := tX.reads (.tmp d2)
  have e2' : dv (((ts.set d0 .any).set d1 x1).set d2 (.sl tag inf.size ys)) (.tmp d2) = .sl tag inf.size ys := by
    show (((ts.set d0 .any).set d1 x1).set d2 (.sl tag inf.size ys)).getD d2 .any = _
    simp [List.getD_eq_getElem?_getD, n5]
  rw [show putD (putD (putD ts (some d0) .any) (some d1) x1) (some d2) (.sl tag inf.size ys) = (((ts.set d0 .any).set d1 x1).set d2 (.sl tag inf.size ys)) from rfl, e2'] at hv2
  obtain ⟨v', C2, w2, m, j1, j2, j3, j4⟩ := append_fresh (P := T ()) (ty := o3.type) S1 u1 u2 hz g4.1 hv2 hn hr1 hr2 hF w.heap.size
  refine lst e2 (wp_of_value (v := v') (w' := w2) ?_ ?_)
  · simp only [execOp, e1, Sem.run_bind, resolve, invoke, builtin, Sem.run_pure, Result.andThen_ok, List.map_toArray, List.map_cons, List.map_nil, hd0, j1]
  · rw [e3]
    exact wlist_sound (k m _ rfl) j3 ((tX.mono j2.toEv).put j4 (some d3)) fun ts' h' a' C' w' k' f' s' t' => hk _ _ _ _ _ k' ((F1.trans j2).trans f') s' t'
theorem storeD_row {P : Program} {h : H} {t bt id j sz : Nat} {E : List (List D)} {row es : List D} {x : D} (hid : h[id]? = some (.box bt E.flatten)) (hi : (P.info? t).map (·.size) = some sz) (hx : cellsD x = some es) (hel : es.length = sz) (hE : ∀ r ∈ E, r.length = sz) (hj : E[j]? = some row) (hleaf : es.all leafD = true) :
    storeD P h t (.mp id sz j 0) x = some (h.set id (.box bt (E.set j es).flatten)) := by
  rw [Option.map_eq_some_iff] at hi
  obtain ⟨inf, hi, hs⟩ := hi
  obtain ⟨k1, k2⟩ := flat_at hE hj
  have hl : row.length = sz := hE row (List.mem_of_getElem? hj)
  have e : splice E.flatten (0 + j * sz) es = (E.set j es).flatten := by
    rw [flat_set es hE hj hel]
    simp only [splice, Nat.zero_add]
    rw [hel]
  simp only [storeD, storeAtD, hid, hx, hi]
  rw [if_pos ⟨by omega, by omega, hleaf⟩, e]
/-- Two parts of an answer, the first one stored: the second one may be taken ahead of the first, or behind the store. -/
theorem TailK.late {T : TP} {l : List Oper} {n : Nat} {ts : List D} {h h2 : H} {K : List D → H → Prop} {o0 o1 o2 : Oper} {d0 d1 : Tmp} {x0 x1 : D} {tD : TypeId} {pD : Operand} (hb : ways3 l n = true) (hlen : l.length = n + 3)
    (h0 : l[n]? = some o0) (a2 : o0.guard = none) (a3 : o0.dst = some d0) (h1 : l[n + 1]? = some o1) (b2 : o1.guard = none) (b3 : o1.dst = some d1) (hh2 : l[n + 2]? = some o2) (c1 : o2.op = .store tD pD (.tmp d0)) (c2 : o2.guard = none) (c3 : o2.dst = none)
    (n1 : d0 ≠ d1) (n2 : pD ≠ .tmp d0) (n3 : pD ≠ .tmp d1) (n4 : Nat.blt d0 ts.length = true)
    (s0 : sop (T ()) (dv ts) o0 h = some x0) (s1 : sop (T ()) (dv (ts.set d0 x0)) o1 h = some x1) (s1' : sop (T ()) (dv (ts.set d0 x0)) o1 h2 = some x1) (s1'' : sop (T ()) (dv ts) o1 h = some x1) (s0' : sop (T ()) (dv (ts.set d1 x1)) o0 h = some x0)
    (sd : storeD (T ()) h tD (dv ts pD) x0 = some h2) (k : K ((ts.set d0 x0).set d1 x1) h2) : TailK T l n ts h K := by
  refine ⟨fun C w a Q s ta hk => ?_⟩
  have n4 : d0 < ts.length := by simpa [Nat.blt_eq] using n4
  have htl : ts.length = a.tmps.size := by have := ta.rd.len; simpa using this
  have at_ : ∀ {i : Nat} {o : Oper}, l[i]? = some o → l.toArray[i]? = some o := fun h => by simpa using h
  have hsize : l.toArray.size - n = 3 := by simp [hlen]
  rw [hsize]
  simp only [ways3, Bool.and_eq_true, beq_iff_eq] at hb
  obtain ⟨b0, b1, b2', b3', b4, b5, b6, b7, b8⟩ := hb
  have opS : ∀ {KK : Act → World → Prop} {aX : Act} {wX : World} {C1 : Cx}, Sim C1 h wX → Rd C1 wX x0 (aX.eval (.tmp d0)) → Rd C1 wX (dv ts pD) (aX.eval pD) → (∀ w2, Fw C1 wX C1 w2 → Sim C1 h2 w2 → KK aX w2) → o2.wp (T ()) aX wX KK Q := fun {KK aX wX C1} sX r1 r2 hK => by
    obtain ⟨w2, k1, k2, k3⟩ := storeD_sound sX r2 r1 sd
    have : (execOp aX.eval o2).run (T ()) wX = .ok .skip w2 := by
      simp only [execOp, c1, Sem.run_bind, k1]
      rfl
    unfold Oper.wp
    rw [this]
    show KK (Act.put _ o2.dst undef) _
    rw [c3]
    exact hK w2 k2 k3
  have hpD := ta.reads pD
  refine any_step b0 (by simp) fun i hi => ?_
  rcases (by simpa using hi : i = n ∨ i = n + 1) with rfl | rfl
  · obtain ⟨v0, y1, y2⟩ := sop_sound s ta.reads s0
    refine op_at (at_ h0) a2 (wp_of_value y1 ?_)
    rw [a3]
    have t1 := ta.put y2 (some d0)
    have e0 : (a.put (some d0) v0).eval (.tmp d0) = v0 := eval_put_eq (by rw [← htl]; exact n4)
    refine any_step b1 (by simp) fun i' hi' => ?_
    rcases (by simpa using hi' : i' = i + 1 ∨ i' = i + 2) with rfl | rfl
    · obtain ⟨v1, y3, y4⟩ := sop_sound s t1.reads s1
      refine op_at (at_ h1) b2 (wp_of_value y3 ?_)
      rw [b3]
      have t2 := t1.put y4 (some d1)
      refine any_step b3' (by simp) fun i2' hi2 => ?_
      obtain rfl : i2' = i + 2 := by simpa using hi2
      refine op_at (at_ hh2) c2 (opS s ?_ ?_ fun w2 f2 s2 => ⟨b6, hk _ _ _ _ _ k f2 s2 (t2.mono f2.toEv)⟩)
      · rw [eval_put_ne (fun e => n1 (by cases e; rfl)), e0]
        exact y2
      · rw [eval_put_ne n3, eval_put_ne n2]
        exact hpD
    · refine op_at (at_ hh2) c2 (opS s ?_ ?_ fun w2 f2 s2 => ?_)
      · rw [e0]
        exact y2
      · rw [eval_put_ne n2]
        exact hpD
      refine any_step b4 (by simp) fun i2' hi2 => ?_
      obtain rfl : i2' = i + 1 := by simpa using hi2
      have t1' := t1.mono f2.toEv
      obtain ⟨v1, y3, y4⟩ := sop_sound s2 t1'.reads s1'
      refine op_at (at_ h1) b2 (wp_of_value y3 ?_)
      rw [b3]
      exact ⟨b7, hk _ _ _ _ _ k f2 s2 (t1'.put y4 (some d1))⟩
  · obtain ⟨v1, y3, y4⟩ := sop_sound s ta.reads s1''
    refine op_at (at_ h1) b2 (wp_of_value y3 ?_)
    rw [b3]
    have t1 := ta.put y4 (some d1)
    refine any_step b2' (by simp) fun i' hi' => ?_
    obtain rfl : i' = n := by simpa using hi'
    obtain ⟨v0, y1, y2⟩ := sop_sound s t1.reads s0'
    refine op_at (at_ h0) a2 (wp_of_value y1 ?_)
    rw [a3]
    have t2 := t1.put y2 (some d0)
    rw [show putD (putD ts (some d1) x1) (some d0) x0 = (ts.set d0 x0).set d1 x1 from List.set_comm _ _ (fun e => n1 e.symm)] at t2
    have e0 : ((a.put (some d1) v1).put (some d0) v0).eval (.tmp d0) = v0 := eval_put_eq (by rw [show (a.put (some d1) v1).tmps.size = a.tmps.size from Array.size_setIfInBounds .., ← htl]; exact n4)
    refine any_step b5 (by simp) fun i2' hi2 => ?_
    obtain rfl : i2' = i' + 2 := by simpa using hi2
    refine op_at (at_ hh2) c2 (opS s ?_ ?_ fun w2 f2 s2 => ⟨b8, hk _ _ _ _ _ k f2 s2 (t2.mono f2.toEv)⟩)
    · rw [e0]
      exact y2
    · rw [eval_put_ne n2, eval_put_ne n3]
      exact hpD
def ways4 (l : List Oper) (n : Nat) : Bool :=
  let r := Region.ready .any l.toArray
  let A := (doneA n 4).setIfInBounds n true
  let B := (doneA n 4).setIfInBounds (n + 1) true
  let AB := A.setIfInBounds (n + 1) true
  let BA := B.setIfInBounds n true
  let AI := A.setIfInBounds (n + 2) true
  let fin := fun X : Array Bool => r X == [n + 2] && (r (X.setIfInBounds (n + 2) true) == [n + 3] && r ((X.setIfInBounds (n + 2) true).setIfInBounds (n + 3) true) == [])
  r (doneA n 4) == [n, n + 1] && (r A == [n + 1, n + 2] && (r B == [n] && (fin AB && (fin BA && (r AI == [n + 1, n + 3] && (r (AI.setIfInBounds (n + 1) true) == [n + 3] && (r ((AI.setIfInBounds (n + 1) true).setIfInBounds (n + 3) true) == [] &&
    (r (AI.setIfInBounds (n + 3) true) == [n + 1] && r ((AI.setIfInBounds (n + 3) true).setIfInBounds (n + 1) true) == []))))))))
/-- The same, where the place of the store is told ahead of it. -/
theorem TailK.late4 {T : TP} {l : List Oper} {n : Nat} {ts : List D} {h h2 : H} {K : List D → H → Prop} {o0 o1 oI o2 : Oper} {d0 d1 dI : Tmp} {x0 x1 xI : D} {tD : TypeId} (hb : ways4 l n = true) (hlen : l.length = n + 4)
    (h0 : l[n]? = some o0) (a2 : o0.guard = none) (a3 : o0.dst = some d0) (h1 : l[n + 1]? = some o1) (b2 : o1.guard = none) (b3 : o1.dst = some d1) (hI : l[n + 2]? = some oI) (i2 : oI.guard = none) (i3 : oI.dst = some dI)
    (hh2 : l[n + 3]? = some o2) (c1 : o2.op = .store tD (.tmp dI) (.tmp d0)) (c2 : o2.guard = none) (c3 : o2.dst = none)
    (n1 : d0 ≠ d1) (n2 : d0 ≠ dI) (n3 : d1 ≠ dI) (n4 : Nat.blt d0 ts.length = true) (n5 : Nat.blt dI ts.length = true)
    (s0 : sop (T ()) (dv ts) o0 h = some x0) (s0' : sop (T ()) (dv (ts.set d1 x1)) o0 h = some x0) (s1 : sop (T ()) (dv ts) o1 h = some x1) (s1' : sop (T ()) (dv (ts.set d0 x0)) o1 h = some x1)
    (s1a : sop (T ()) (dv ((ts.set d0 x0).set dI xI)) o1 h = some x1) (s1b : sop (T ()) (dv ((ts.set d0 x0).set dI xI)) o1 h2 = some x1)
    (sI : sop (T ()) (dv (ts.set d0 x0)) oI h = some xI) (sI' : sop (T ()) (dv ((ts.set d0 x0).set d1 x1)) oI h = some xI)
    (sd : storeD (T ()) h tD xI x0 = some h2) (k : K (((ts.set d0 x0).set d1 x1).set dI xI) h2) : TailK T l n ts h K := by
  refine ⟨fun C w a Q s ta hk => ?_⟩
  have n4 : d0 < ts.length := by simpa [Nat.blt_eq] using n4
  have n5 : dI < ts.length := by simpa [Nat.blt_eq] using n5
  have htl : ts.length = a.tmps.size := by have := ta.rd.len; simpa using this
  have at_ : ∀ {i : Nat} {o : Oper}, l[i]? = some o → l.toArray[i]? = some o := fun h => by simpa using h
  have hsize : l.toArray.size - n = 4 := by simp [hlen]
  rw [hsize]
  simp only [ways4, Bool.and_eq_true, beq_iff_eq] at hb
  obtain ⟨b0, b1, b2', fAB, fBA, b5, b6, b7, b8, b9⟩ := hb
  have opS : ∀ {KK : Act → World → Prop} {aX : Act} {wX : World} {C1 : Cx}, Sim C1 h wX → Rd C1 wX x0 (aX.eval (.tmp d0)) → Rd C1 wX xI (aX.eval (.tmp dI)) → (∀ w2, Fw C1 wX C1 w2 → Sim C1 h2 w2 → KK aX w2) → o2.wp (T ()) aX wX KK Q := fun {KK aX wX C1} sX r1 r2 hK => by
    obtain ⟨w2, k1, k2, k3⟩ := storeD_sound sX r2 r1 sd
    have : (execOp aX.eval o2).run (T ()) wX = .ok .skip w2 := by
      simp only [execOp, c1, Sem.run_bind, k1]
      rfl
    unfold Oper.wp
    rw [this]
    show KK (Act.put _ o2.dst undef) _
    rw [c3]
    exact hK w2 k2 k3
  have sz : ∀ {aX : Act} {t : Tmp} {v : Value}, (aX.put (some t) v).tmps.size = aX.tmps.size := Array.size_setIfInBounds ..
  have lt0 : d0 < a.tmps.size := by rw [← htl]; exact n4
  have ltI : dI < a.tmps.size := by rw [← htl]; exact n5
  have ne : ∀ {x y : Tmp}, x ≠ y → (Operand.tmp x) ≠ .tmp y := fun h e => h (by cases e; rfl)
  -- both parts are there: the place, and the store
  have fin : ∀ (L : Array Bool) (aX : Act) (v0 : Value), (Region.ready .any l.toArray L = [n + 2] ∧ Region.ready .any l.toArray (L.setIfInBounds (n + 2) true) = [n + 3] ∧ Region.ready .any l.toArray ((L.setIfInBounds (n + 2) true).setIfInBounds (n + 3) true) = []) →
      TA C w ((ts.set d0 x0).set d1 x1) aX → aX.tmps.size = a.tmps.size → aX.eval (.tmp d0) = v0 → Rd C w x0 v0 → wpAny (T ()) .any l.toArray Q 2 L aX w := fun L aX v0 ⟨r1, r2, r3⟩ tX hsz e0 y2 => by
    refine any_step r1 (by simp) fun i hi => ?_
    obtain rfl : i = n + 2 := by simpa using hi
    obtain ⟨vI, y3, y4⟩ := sop_sound s tX.reads sI'
    refine op_at (at_ hI) i2 (wp_of_value y3 ?_)
    rw [i3]
    have t2 := tX.put y4 (some dI)
    refine any_step r2 (by simp) fun i hi => ?_
    obtain rfl : i = n + 3 := by simpa using hi
    refine op_at (at_ hh2) c2 (opS s ?_ ?_ fun w2 f2 s2 => ⟨r3, hk _ _ _ _ _ k f2 s2 (t2.mono f2.toEv)⟩)
    · rw [eval_put_ne (ne n2), e0]
      exact y2
    · rw [eval_put_eq (by rw [hsz]; exact ltI)]
      exact y4
  refine any_step b0 (by simp) fun i hi => ?_
  rcases (by simpa using hi : i = n ∨ i = n + 1) with rfl | rfl
  · obtain ⟨v0, y1, y2⟩ := sop_sound s ta.reads s0
    refine op_at (at_ h0) a2 (wp_of_value y1 ?_)
    rw [a3]
    have t1 := ta.put y2 (some d0)
    have e0 : (a.put (some d0) v0).eval (.tmp d0) = v0 := eval_put_eq lt0
    refine any_step b1 (by simp) fun i' hi' => ?_
    rcases (by simpa using hi' : i' = i + 1 ∨ i' = i + 2) with rfl | rfl
    · obtain ⟨v1, y3, y4⟩ := sop_sound s t1.reads s1'
      refine op_at (at_ h1) b2 (wp_of_value y3 ?_)
      rw [b3]
      refine fin _ _ v0 fAB (t1.put y4 (some d1)) (sz.trans sz) ?_ y2
      rw [eval_put_ne (ne n1), e0]
    · obtain ⟨vI, y3, y4⟩ := sop_sound s t1.reads sI
      refine op_at (at_ hI) i2 (wp_of_value y3 ?_)
      rw [i3]
      have t2 := t1.put y4 (some dI)
      have e1 : ((a.put (some d0) v0).put (some dI) vI).eval (.tmp d0) = v0 := by rw [eval_put_ne (ne n2), e0]
      have eI : ((a.put (some d0) v0).put (some dI) vI).eval (.tmp dI) = vI := eval_put_eq (by rw [sz]; exact ltI)
      refine any_step b5 (by simp) fun i2' hi2 => ?_
      rcases (by simpa using hi2 : i2' = i + 1 ∨ i2' = i + 3) with rfl | rfl
      · obtain ⟨v1, y5, y6⟩ := sop_sound s t2.reads s1a
        refine op_at (at_ h1) b2 (wp_of_value y5 ?_)
        rw [b3]
        have t3 := t2.put y6 (some d1)
        rw [show putD (putD (putD ts (some d0) x0) (some dI) xI) (some d1) x1 = ((ts.set d0 x0).set d1 x1).set dI xI from List.set_comm _ _ (fun e => n3 e.symm)] at t3
        refine any_step b6 (by simp) fun i3' hi3 => ?_
        obtain rfl : i3' = i + 3 := by simpa using hi3
        refine op_at (at_ hh2) c2 (opS s ?_ ?_ fun w2 f2 s2 => ⟨b7, hk _ _ _ _ _ k f2 s2 (t3.mono f2.toEv)⟩)
        · rw [eval_put_ne (ne n1), e1]
          exact y2
        · rw [eval_put_ne (ne (fun e => n3 e.symm)), eI]
          exact y4
      · refine op_at (at_ hh2) c2 (opS s ?_ ?_ fun w2 f2 s2 => ?_)
        · rw [e1]
          exact y2
        · rw [eI]
          exact y4
        refine any_step b8 (by simp) fun i3' hi3 => ?_
        obtain rfl : i3' = i + 1 := by simpa using hi3
        have t2' := t2.mono f2.toEv
        obtain ⟨v1, y5, y6⟩ := sop_sound s2 t2'.reads s1b
        refine op_at (at_ h1) b2 (wp_of_value y5 ?_)
        rw [b3]
        have t3 := t2'.put y6 (some d1)
        rw [show putD (putD (putD ts (some d0) x0) (some dI) xI) (some d1) x1 = ((ts.set d0 x0).set d1 x1).set dI xI from List.set_comm _ _ (fun e => n3 e.symm)] at t3
        exact ⟨b9, hk _ _ _ _ _ k f2 s2 t3⟩
  · obtain ⟨v1, y3, y4⟩ := sop_sound s ta.reads s1
    refine op_at (at_ h1) b2 (wp_of_value y3 ?_)
    rw [b3]
    have t1 := ta.put y4 (some d1)
    refine any_step b2' (by simp) fun i' hi' => ?_
    obtain rfl : i' = n := by simpa using hi'
    obtain ⟨v0, y1, y2⟩ := sop_sound s t1.reads s0'
    refine op_at (at_ h0) a2 (wp_of_value y1 ?_)
    rw [a3]
    have t2 := t1.put y2 (some d0)
    rw [show putD (putD ts (some d1) x1) (some d0) x0 = (ts.set d0 x0).set d1 x1 from List.set_comm _ _ (fun e => n1 e.symm)] at t2
    exact fin _ _ v0 fBA t2 (sz.trans sz) (eval_put_eq (by rw [sz]; exact lt0)) y2
theorem sop_midx {P : Program} {t e : Nat} {sz bytes id len : Nat} {ρ : Operand → D} {o : Oper} {x li : Operand} {i : Int} {h : H} (he : ElemIs P t e sz bytes) (ho : o.op = .indexAddr t x li) (hx : ρ x = .ms id 0 len) (hi : ρ li = .raw (.int .i64 i)) (h0 : 0 ≤ i) (h1 : i.toNat < len) :
    sop P ρ o h = some (.mp id sz i.toNat 0) := by
  obtain ⟨inf, g1, rfl, rfl, _⟩ := he.out
  unfold sop
  rw [ho]
  simp only [hx, hi, indexD, g1]
  rw [if_pos ⟨h0, h1⟩]
end Go.Proofs.Ytlklpangckkkaaa.Pv
