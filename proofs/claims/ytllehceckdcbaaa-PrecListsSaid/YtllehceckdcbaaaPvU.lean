/- Drawn regions whose last operations come in several orders. -/
import Derived.Test.YtllehceckdcbaaaPvW
/-! ## Part 22 -/
namespace Go.Proofs.Ytllehceckdcbaaa.Pv
open Go Go.RowKit
/-! ### The head, by what waits -/
def ancB (md : Region.Mode) (ops : Array Oper) : Nat → Nat → Nat → Bool
  | 0, _, _ => false
  | f + 1, t, i => match ops[t]? with
    | some o => (o.after.any fun e => Region.binds md e && e.on == i) || (o.after.any fun e => Region.binds md e && ancB md ops f e.on i)
    | none => false
def headWB (md : Region.Mode) (ops : Array Oper) (n : Nat) : Bool :=
  aheadB md ops && decide (n ≤ ops.size) && ((List.range (ops.size - n)).all fun d => (List.range n).all fun i => ancB md ops ops.size (n + d) i)
theorem anc_listed {md : Region.Mode} {ops : Array Oper} {n : Nat} {listed : Array Bool} (inv : HeadInv md ops n listed) : ∀ (f j i : Nat), (∀ oj, ops[j]? = some oj → ∀ e ∈ oj.after, Region.binds md e = true → listed.getD e.on false = true) → ancB md ops f j i = true → listed.getD i false = true
  | 0, j, i, _, h => by cases h
  | f + 1, j, i, hl, h => by
    unfold ancB at h
    split at h
    · rename_i o ho
      simp only [Bool.or_eq_true] at h
      rcases h with h | h
      · obtain ⟨e, he, hb⟩ := Array.any_eq_true'.1 h
        simp only [Bool.and_eq_true, beq_iff_eq] at hb
        have := hl o ho e he hb.1
        rwa [hb.2] at this
      · obtain ⟨e, he, hb⟩ := Array.any_eq_true'.1 h
        simp only [Bool.and_eq_true] at hb
        have h1 := hl o ho e he hb.1
        exact anc_listed inv f e.on i (fun oj hoj e' he' hb' => inv.closed e.on oj hoj h1 e' he' hb') hb.2
    · cases h
theorem headWB_spec {md : Region.Mode} {ops : Array Oper} {n : Nat} (h : headWB md ops n = true) : HeadW md ops n := by
  simp only [headWB, Bool.and_eq_true, decide_eq_true_eq] at h
  obtain ⟨⟨h1, h2⟩, h3⟩ := h
  refine ⟨h1, h2, fun listed i inv hi hun t ht hr => ?_⟩
  obtain ⟨_, o, ho, hall⟩ := mem_ready.1 hr
  have hts := (Array.getElem?_eq_some_iff.1 ho).1
  have h4 := List.all_eq_true.1 (List.all_eq_true.1 h3 (t - n) (List.mem_range.2 (by omega))) i (List.mem_range.2 hi)
  rw [show n + (t - n) = t by omega] at h4
  have h5 := anc_listed inv _ _ _ (fun oj hoj e he hb => by
    have : oj = o := Option.some.inj (hoj.symm.trans ho)
    subst this
    exact hall e he hb) h4
  rw [getD_both hun] at h5
  cases h5
/-- What is behind the head, in whatever order it comes. -/
def TailP (P : Program) (l : List Oper) (n : Nat) (ts : List D) (h : H) (K : List D → H → Prop) : Prop := ∀ (C : Cx) (w : World) (a : Act) (Q : Exit → Act → World → Prop), Sim C h w → TA C w ts a →
  (∀ ts' h' a' C' w', K ts' h' → Fw C w C' w' → Sim C' h' w' → TA C' w' ts' a' → Q .normal a' w') → wpAny P .any l.toArray Q (l.toArray.size - n) (doneA n (l.toArray.size - n)) a w
structure TailK (T : TP) (l : List Oper) (n : Nat) (ts : List D) (h : H) (K : List D → H → Prop) : Prop where
  out : TailP (T ()) l n ts h K
def statT (l : List Oper) (n : Nat) : Bool := (headWB .any l.toArray n && (waitsB l n && storeB l n)) && freshB l n
theorem DrawK.tail {T : TP} {l : List Oper} {ts : List D} {h : H} {K : List D → H → Prop} (j : Nat) (hm : (T ()).follows .mixedOrders = true) (hs : statT l (l.length - j) = true)
    (k : whrun T l (l.length - j) ts h (l.length - j) [] fun hs => StatK l (l.length - j) ts.length hs fun _ => TailK T l (l.length - j) (hfin l (l.length - j) hs (deadB l (l.length - j) hs) (l.length - j) ts h).1 (hfin l (l.length - j) hs (deadB l (l.length - j) hs) (l.length - j) ts h).2 K) : DrawK T l ts h K := by
  refine ⟨.inr (.inr (.inr fun id C w a Q s ta hk => ?_))⟩
  obtain ⟨hs', k1, k2⟩ := whrun_ok k (by simp) (fun i hi => absurd hi (Nat.not_lt_zero _))
  obtain ⟨⟨h1, h2⟩, h3⟩ := k2.out
  simp only [statT, Bool.and_eq_true] at hs
  exact adraw_coreW hm k1 (headWB_spec hs.1.1) (by simp only [staticW, Bool.and_eq_true]; exact ⟨⟨h1, hs.1.2⟩, h2⟩) id s ta fun a1 C1 w1 f1 s1 t1 => h3.out C1 w1 a1 Q s1 t1 fun ts' h' a' C' w' k f' s' t' => hk ts' h' a' C' w' k (f1.trans f') s' t'
/-! ### One operation of a tail -/
section
variable {P : Program} {ops : Array Oper} {Q : Exit → Act → World → Prop}
theorem any_step {f : Nat} {listed : Array Bool} {a : Act} {w : World} {rs : List Nat} (hr : Region.ready .any ops listed = rs) (hne : rs ≠ []) (h : ∀ i ∈ rs, wpOp P ops Q i (wpAny P .any ops Q f (listed.setIfInBounds i true)) a w) : wpAny P .any ops Q (f + 1) listed a w := by
  subst hr
  exact ⟨fun h0 => absurd h0 hne, h⟩
theorem op_at {i : Nat} {o : Oper} {a : Act} {w : World} {K : Act → World → Prop} (ho : ops[i]? = some o) (hg : o.guard = none) (h : o.wp P a w K Q) : wpOp P ops Q i K a w := by
  unfold wpOp
  simp only [ho]
  rw [if_pos (by simp [Region.wanted, hg])]
  exact .inl h
/-- A list's run of one operation is that operation's. -/
theorem op_list {i : Nat} {o : Oper} {a : Act} {w : World} {K : Act → World → Prop} (ho : ops[i]? = some o) (h : wpList P ops (fun e a w => match e with | .normal => K a w | e => Q e a w) [o] a w) : wpOp P ops Q i K a w := by
  unfold wpOp
  simp only [ho]
  exact h
end
theorem setRow_comm (w : World) {a b : Nat} (h : a ≠ b) (x y : Array Value) : (w.setRow a x).setRow b y = (w.setRow b y).setRow a x := by
  unfold World.setRow
  congr 1
  apply Array.ext_getElem?
  intro k
  simp only [Array.getElem?_modify]
  by_cases h1 : a = k
  · subst h1
    have hba : ¬ b = a := fun e => h e.symm
    simp [hba]
  · by_cases h2 : b = k
    · subst h2
      simp [h1]
    · simp [h1, h2]
theorem eval_put_ne {a : Act} {t : Tmp} {v : Value} : ∀ {x : Operand}, x ≠ .tmp t → (a.put (some t) v).eval x = a.eval x
  | .tmp u, h => by
    have hut : t ≠ u := fun e => h (by rw [e])
    show (a.tmps.setIfInBounds t v).getD u undef = a.tmps.getD u undef
    simp [Array.getD_eq_getD_getElem?, Array.getElem?_setIfInBounds_ne hut]
  | .const _, _ => rfl
  | .global _, _ => rfl
  | .func _, _ => rfl
theorem eval_put_eq {a : Act} {t : Tmp} {v : Value} (h : t < a.tmps.size) : (a.put (some t) v).eval (.tmp t) = v := by
  show (a.tmps.setIfInBounds t v).getD t undef = v
  simp [Array.getD_eq_getD_getElem?, h]
/-! ### An append of a zero, whose place is stored to then -/
section
variable {P : Program} {C : Cx} {h : H} {w : World}
theorem append_stored (s : Sim C h w) {id e : Nat} {i : TypeInfo} {z : Value} {t tx ty : TypeId} {ds : List D} (he : h[id]? = some (.log e i.size ds.length)) (ht : P.underlying t = some (.slice e)) (hi : P.info? e = some i) (hz : i.zero = some z) (hzs : z.cells.size = i.size) (hsz : 0 < i.size)
    {u : Value} (hds : Rd C w (.sl (some id) i.size ds) u) {zv : Value} {zs : List Value} (hs : Src P i.size tx zv 1 zs w) (hro : roomy (ds.length + 1) i.bytes = true)
    {x : D} {xv : Value} (hx : Rd C w x xv) {es : List D} (hxc : cellsD x = some es) (hxl : es.length = i.size) (hxd : es.all leafD = true) :
    ∃ v w1 g cap cur C', (Builtin.append_ #[t, tx] ty #[u, zv]).run P w = .ok v w1 ∧ v = .slice (some ⟨g, 0, none⟩) (ds.length + 1) cap ∧ w1.heap[g]? = some (.cells cur e (0, 0)) ∧ (ds.length + 1) * i.size ≤ cur.size ∧
      Fw C w C' (w1.setRow g (splice cur.toList (ds.length * i.size) xv.cells.toList).toArray) ∧ Sim C' (h.set id (.log e i.size (ds.length + 1))) (w1.setRow g (splice cur.toList (ds.length * i.size) xv.cells.toList).toArray) ∧
      Rd C' (w1.setRow g (splice cur.toList (ds.length * i.size) xv.cells.toList).toArray) (.sl (some id) i.size (ds ++ [x])) v ∧ ∀ id' b, C.bx id' = some b → b ≠ g ∧ w1.heap[b]? = w.heap[b]? := by
  obtain ⟨r1, r2⟩ := roomy_some hro
  have hxr := hx.cells hxc
  have hxn : xv.cells.toList.length = i.size := by rw [← hxr.len, hxl]
  have hone := hxr.leaves hxd
  obtain ⟨_, _, htag⟩ := hds
  obtain ⟨u', hu, _, heq⟩ := htag id rfl
  obtain ⟨u2, xs, hu2, ho, hS0⟩ := s.log id e i.size _ he
  rw [hu] at hu2
  cases hu2
  have e0 := heq (ownsRow_len ho).symm
  subst e0
  have hds : Rd C w (.sl (some id) i.size ds) u := ⟨‹_›, ‹_›, htag⟩
  obtain ⟨v, w1, g, k1, k2, k3, k4, k5, k6, k7⟩ := run_append_src (P := P) t tx ty e i z ht hi hz hzs hsz ho hs (by omega) r1 r2
  obtain ⟨hl2, h2⟩ := k2
  rcases h2 with ⟨h2, _⟩ | ⟨g', cap, cur, hv, _, hg, hle, hcm, hcs, htk⟩
  · subst h2; simp [Value.ownBlock] at k4
  rw [hv] at k4
  simp only [Value.ownBlock, Option.some.injEq] at k4
  subst k4
  have hfit : (ds.length + 1) * i.size ≤ cur.size := by rw [hcs]; exact Nat.mul_le_mul_right _ hle
  have hxsl : xs.length = ds.length * i.size := ho.1
  have htk0 : cur.toList.take (ds.length * i.size) = xs := by
    have := congrArg (List.take (ds.length * i.size)) htk
    rw [List.take_take, Nat.min_eq_left (Nat.mul_le_mul_right _ (Nat.le_succ _)), List.take_append_of_le_length (by omega)] at this
    rw [this, ← hxsl, List.take_length]
  have hsum : (ds.length + 1) * i.size = ds.length * i.size + i.size := by rw [Nat.add_mul, Nat.one_mul]
  generalize hcs2 : (splice cur.toList (ds.length * i.size) xv.cells.toList).toArray = cs
  have hcsl : cs.toList = xs ++ xv.cells.toList ++ cur.toList.drop (ds.length * i.size + xv.cells.toList.length) := by rw [← hcs2]; simp [splice, htk0]
  have hcsz : cs.size = cur.size := by
    have := congrArg List.length hcsl
    simp only [Array.length_toList, List.length_append, List.length_drop, hxsl, hxn] at this
    omega
  have hg2 := setRow_heap w1 g' cur cs e (0, 0) hg
  have hgat : u.ownBlock = some g' ∨ g' = w.heap.size := k5
  have own2 : (w1.setRow g' cs).ownsRow 0 e i.size v (ds.length + 1) (xs ++ xv.cells.toList) := by
    refine ⟨by rw [List.length_append, hxsl, hxn, hsum], .inr ⟨g', cap, cs, hv, Nat.zero_le _, hg2, hle, hcm, by rw [hcsz, hcs], ?_⟩⟩
    rw [hcsl, List.take_append_of_le_length (by rw [List.length_append, hxsl, hxn, hsum]; exact Nat.le_refl _), List.take_of_length_le (by rw [List.length_append, hxsl, hxn, hsum]; exact Nat.le_refl _)]
  have grow2 : w.grownBy (w1.setRow g' cs) u.ownBlock := ⟨k3.os, k3.tape, k3.output, by simpa using k3.size, fun k hk hne => by
    rw [setRow_other _ _ _ _ fun e => ?_]
    · exact k3.block k hk hne
    · subst e
      rcases hgat with h1 | h1
      · exact hne h1.symm
      · omega⟩
  have old2 : ∀ b o, u.ownBlock = some b → o < ds.length * i.size → (w1.setRow g' cs).cell? ⟨b, o, none⟩ = w.cell? ⟨b, o, none⟩ := fun b o hb ho2 => by
    rw [← k6 b o hb ho2]
    by_cases hbg : b = g'
    · subst hbg
      rw [cell_setRow_same w1 b o cur cs e (0, 0) hg, cell_row hg]
      have h1 : cs.toList[o]? = cur.toList[o]? := by
        rw [hcsl, List.getElem?_append_left (by rw [List.length_append]; omega), List.getElem?_append_left (by omega), ← htk0, List.getElem?_take_of_lt ho2]
      simpa using h1
    · exact cell_setRow_other _ _ _ _ hbg
  have new2 : ∀ j, j < (ds.length + 1) * i.size → (w1.setRow g' cs).cell? ⟨g', j, none⟩ = (xs ++ xv.cells.toList)[j]? := fun j hj => by
    rw [cell_setRow_same w1 g' j cur cs e (0, 0) hg]
    have h1 : cs.toList[j]? = (xs ++ xv.cells.toList)[j]? := by
      rw [hcsl, List.getElem?_append_left (by rw [List.length_append, hxsl, hxn]; omega)]
    simpa using h1
  obtain ⟨C', f, s', hl, hS⟩ := s.log_turn he hu ho hS0 (by omega) own2 grow2 (g := g') (by rw [hv]; rfl) hgat old2
  refine ⟨v, w1, g', cap, cur, C', k1, hv, hg, hfit, by rw [hcs2]; exact f, by rw [hcs2]; exact s', ?_, fun id' b hb => ?_⟩
  · rw [hcs2]
    have hds' : RdE C w i.size ds (fun j => xs[j]?) := by
      by_cases h0 : 0 < ds.length
      · obtain ⟨_, hd2, _⟩ := hds
        obtain ⟨b, off, cap', rfl, _, hr⟩ := hd2 h0
        have hc := ho.cells (g := b) rfl
        rcases ho.2 with ⟨h3, _⟩ | ⟨g, cap'', cur', h3, _⟩
        · cases h3
        · simp at h3
          obtain ⟨⟨rfl, rfl⟩, rfl⟩ := h3
          refine hr.congr fun j hj => ?_
          have hlt : j < xs.length := by rw [ho.1]; exact hj
          have := hc j _ (List.getElem?_eq_getElem hlt)
          rw [Addr.add_mid] at this
          rw [this, List.getElem?_eq_getElem hlt]
      · have : ds = [] := List.eq_nil_of_length_eq_zero (by omega)
        subst this
        trivial
    have hys : RdE C w i.size [x] (fun j => xv.cells.toList[j]?) := ⟨⟨xv, hx, by simpa using hxn, hone, fun j hj => by simp [hj]⟩, trivial⟩
    refine ⟨⟨_, cap, by rw [hv, List.length_append]; rfl, by rw [List.length_append]; exact hle, hcm⟩, fun _ => ⟨g', 0, cap, by rw [hv, List.length_append]; rfl, fun j hj => ?_, ?_⟩, fun id' e' => ?_⟩
    · rw [Nat.zero_add]
      exact hS j (by rw [List.length_append] at hj; exact hj)
    · refine RdE.app (RdE.mono f.toEv i.size ds _ _ hds' fun _ _ => rfl) (RdE.mono f.toEv i.size [x] _ _ hys fun _ _ => rfl) (fun j hj => ?_) (fun j hj => ?_)
      · simp only [Nat.zero_add]
        rw [new2 j (by omega), List.getElem?_append_left (by omega)]
      · simp only [Nat.zero_add]
        simp only [List.length_cons, List.length_nil, Nat.zero_add, Nat.one_mul] at hj
        rw [new2 _ (by omega), List.getElem?_append_right (by omega), hxsl]
        congr 1
        omega
    · cases e'
      exact ⟨v, hl, by rw [hv, List.length_append]; exact Nat.le_refl _, fun _ => rfl⟩
  · have hlt := s.lt id' b (.inl hb)
    have hne : some b ≠ u.ownBlock := fun e1 => by
      have := s.inj id' id b (.inl hb) (.inr ⟨u, hu, e1.symm⟩)
      subst this
      have := s.one _ _ hb
      rw [hu] at this
      cases this
    refine ⟨fun e1 => ?_, k3.block b hlt hne⟩
    subst e1
    rcases hgat with h1 | h1
    · exact hne h1.symm
    · omega
end
def growB (l : List Oper) (n : Nat) : Bool :=
  let r := Region.ready .any l.toArray
  let L1 := (doneA n 4).setIfInBounds n true
  let LI := L1.setIfInBounds (n + 1) true
  let LD := L1.setIfInBounds (n + 3) true
  let LIS := LI.setIfInBounds (n + 2) true
  let LID := LI.setIfInBounds (n + 3) true
  let LDI := LD.setIfInBounds (n + 1) true
  r (doneA n 4) == [n] && (r L1 == [n + 1, n + 3] && (r LI == [n + 2, n + 3] && (r LD == [n + 1] && (r LIS == [n + 3] && (r LID == [n + 2] && (r LDI == [n + 2] && (r (LIS.setIfInBounds (n + 3) true) == [] && (r (LID.setIfInBounds (n + 2) true) == [] && r (LDI.setIfInBounds (n + 2) true) == []))))))))
theorem TailK.grow {T : TP} {l : List Oper} {n : Nat} {ts : List D} {h : H} {K : List D → H → Prop} {oA oI oS oD : Oper} {dA dI : Tmp} {s z li xS pD : Operand} {t tz tD el : TypeId} {inf infD : TypeInfo}
    (hb : growB l n = true) (hlen : l.length = n + 4)
    (hA : l[n]? = some oA) (a1 : oA.op = .call { callee := .builtin .append, args := #[s, z], argTypes := #[t, tz] }) (a2 : oA.guard = none) (a3 : oA.dst = some dA)
    (hI : l[n + 1]? = some oI) (i1 : oI.op = .indexAddr t (.tmp dA) li) (i2 : oI.guard = none) (i3 : oI.dst = some dI)
    (hS : l[n + 2]? = some oS) (s1 : oS.op = .store el (.tmp dI) xS) (s2 : oS.guard = none) (s3 : oS.dst = none)
    (hD : l[n + 3]? = some oD) (d1 : oD.op = .store tD pD (.tmp dA)) (d2 : oD.guard = none) (d3 : oD.dst = none)
    (n1 : dA ≠ dI) (n2 : li ≠ .tmp dA) (n3 : xS ≠ .tmp dA) (n4 : xS ≠ .tmp dI) (n5 : pD ≠ .tmp dA) (n6 : pD ≠ .tmp dI) (n7 : Nat.blt dA ts.length = true) (n8 : Nat.blt dI ts.length = true)
    (he : elemP (T ()) t = some (el, inf)) (h0 : 0 < inf.size ∧ inf.zero.map (·.cells.size) = some inf.size) (hiD : (T ()).info? tD = some infD) (hiDs : infD.size = 1)
    {zd : D} (hz : srcD (T ()) tz inf.size (dv ts z) = some [zd]) {id : Nat} {L : List D} (hs : dv ts s = .sl (some id) inf.size L) (hid : h[id]? = some (.log el inf.size L.length)) (hro : roomy (L.length + 1) inf.bytes = true)
    {nl : Int} (hli : dv ts li = .raw (.int .i64 nl)) (hnl : nl = L.length) {es : List D} (hx : cellsD (dv ts xS) = some es) (hxl : es.length = inf.size) (hxd : es.all leafD = true)
    {idD : Nat} (hpD : dv ts pD = .bx idD 0) {tB : TypeId} {dB : D} (hhD : h[idD]? = some (.box tB [dB]))
    (k : K ((ts.set dA (.sl (some id) inf.size (L ++ [dv ts xS]))).set dI .any) ((h.set id (.log el inf.size (L.length + 1))).set idD (.box tB [.sl (some id) inf.size (L ++ [dv ts xS])]))) : TailK T l n ts h K := by
  refine ⟨fun C w a Q S ta hk => ?_⟩
  have n7 : dA < ts.length := by simpa [Nat.blt_eq] using n7
  have n8 : dI < ts.length := by simpa [Nat.blt_eq] using n8
  have htl : ts.length = a.tmps.size := by have := ta.rd.len; simpa using this
  obtain ⟨e1, e2⟩ := elemP_some he
  obtain ⟨hsz, hz'⟩ := h0
  rw [Option.map_eq_some_iff] at hz'
  obtain ⟨zz, hzz, hzs⟩ := hz'
  have rs := ta.reads s
  rw [hs] at rs
  have rz := ta.reads z
  have rx := ta.reads xS
  have rp := ta.reads pD
  rw [hpD] at rp
  obtain ⟨bD, hbD, hpv⟩ := rp
  have rl := ta.reads li
  rw [hli] at rl
  simp only [Rd] at rl
  obtain ⟨zs, j1, _⟩ := srcD_sound rz hz
  obtain ⟨v, w1, g, cap, cur, C', k1, hv, hg, hfit, f, s', rv, hbx⟩ := append_stored (P := T ()) (ty := oA.type) S hid e1 e2 hzz hzs hsz rs j1 hro rx hx hxl hxd
  have hxr := rx.cells hx
  have hxn : (a.eval xS).cells.toList.length = inf.size := by rw [← hxr.len, hxl]
  have hone := hxr.leaves hxd
  have hxn' : (a.eval xS).cells.size = inf.size := by simpa using hxn
  have hsum : (L.length + 1) * inf.size = L.length * inf.size + inf.size := by rw [Nat.add_mul, Nat.one_mul]
  obtain ⟨hbg, hbw⟩ := hbx idD bD hbD
  obtain ⟨bD', vsD, q1, q2, q3, q4, q5⟩ := S.box idD tB [dB] hhD
  rw [hbD] at q1
  cases q1
  have hvl : vsD.size = 1 := by have := q3.len; simpa using this.symm
  -- the store of an element, in any world that has the row
  have runS : ∀ wX : World, wX.heap[g]? = some (.cells cur el (0, 0)) → (Instr.storeAt el (.pointer (some ⟨g, L.length * inf.size, none⟩)) (a.eval xS)).run (T ()) wX = .ok () (wX.setRow g (splice cur.toList (L.length * inf.size) (a.eval xS).cells.toList).toArray) := fun wX hX => by
    have hrun := run_storeCells_at (T ()) g (L.length * inf.size) el (a.eval xS).cells.toList 0 cur wX hX (by omega) hone
    rw [splice_toArray] at hrun
    simp only [Instr.storeAt, Instr.sureAddr, Sem.run_bind, Sem.run_pure, Result.andThen_ok, storeVar, sizeOf, typeInfo, run_program, e2]
    simp [hxn']
    exact hrun
  -- the store of the slice, in any world that has the box
  have runD : ∀ wX : World, wX.heap[bD]? = some (.cells vsD tB (0, 0)) → (Instr.storeAt tD (.pointer (some ⟨bD, 0, none⟩)) v).run (T ()) wX = .ok () (wX.setRow bD #[v]) := fun wX hX => by
    have hvc : v.cells = #[v] := by rw [hv]; rfl
    have hrun := run_storeCells_at (T ()) bD 0 tB v.cells.toList 0 vsD wX hX (by rw [hvc, hvl]; simp) (by rw [hvc, hv]; simp [Value.oneCell'])
    rw [splice_toArray] at hrun
    have hsp : (splice vsD.toList 0 v.cells.toList).toArray = #[v] := by
      rw [hvc]
      simp only [splice, List.take_zero, List.nil_append, Nat.zero_add]
      rw [List.drop_of_length_le (by simp [hvl]), List.append_nil]
    rw [hsp] at hrun
    simp only [Instr.storeAt, Instr.sureAddr, Sem.run_bind, Sem.run_pure, Result.andThen_ok, storeVar, sizeOf, typeInfo, run_program, hiD]
    have : v.cells.size = infD.size := by rw [hvc, hiDs]; rfl
    simp [this]
    exact hrun
  generalize hcs : (splice cur.toList (L.length * inf.size) (a.eval xS).cells.toList).toArray = cs at runS f s' rv
  have hgD1 : w1.heap[bD]? = some (.cells vsD tB (0, 0)) := hbw.trans q2
  have hgD2 : (w1.setRow g cs).heap[bD]? = some (.cells vsD tB (0, 0)) := (setRow_other _ _ _ _ hbg).trans hgD1
  have hgS : (w1.setRow bD #[v]).heap[g]? = some (.cells cur el (0, 0)) := (setRow_other _ _ _ _ fun e => hbg e.symm).trans hg
  have hcomm : (w1.setRow bD #[v]).setRow g cs = (w1.setRow g cs).setRow bD #[v] := setRow_comm w1 hbg _ _
  -- what is there at the end
  have hbx' : C'.bx idD = some bD := f.toEv.bx _ _ hbD
  have hnid : idD ≠ id := fun e => by
    subst e
    rw [hhD] at hid
    cases hid
  have hhD' : (h.set id (.log el inf.size (L.length + 1)))[idD]? = some (.box tB [dB]) := by rw [List.getElem?_set_ne (fun e => hnid e.symm)]; exact hhD
  obtain ⟨b2, vs2, r1, r2, _, _, r5⟩ := s'.box idD tB [dB] hhD'
  rw [hbx'] at r1
  cases r1
  obtain ⟨f3, s3'⟩ := Sim.store s' hhD' hbx' hgD2 r5 (us := #[v]) (es := [.sl (some id) inf.size (L ++ [dv ts xS])]) ⟨v, [], rfl, rv, rfl⟩ (by rw [hv]; simp [Value.oneCell'])
  have fin : Q .normal ((a.put (some dA) v).put (some dI) (.pointer (some ⟨g, L.length * inf.size, none⟩))) ((w1.setRow g cs).setRow bD #[v]) := by
    refine hk _ _ _ C' _ k (f.trans f3) s3' ?_
    exact ((ta.mono (f.trans f3).toEv).put (rv.mono f3.toEv) (some dA)).put (d := .any) trivial (some dI)
  -- the operations
  have opA : ∀ {KK : Act → World → Prop}, KK (a.put (some dA) v) w1 → oA.wp (T ()) a w KK Q := fun hK => by
    refine wp_of_value (v := v) (w' := w1) ?_ (by rw [a3]; exact hK)
    simp only [execOp, a1, Sem.run_bind, resolve, invoke, builtin, Sem.run_pure, Result.andThen_ok, List.map_toArray, List.map_cons, List.map_nil, k1]
  have evA : ∀ {x : Operand} {aX : Act}, x ≠ .tmp dA → (aX.put (some dA) v).eval x = aX.eval x := fun h => eval_put_ne h
  have opI : ∀ {KK : Act → World → Prop} (wX : World), KK ((a.put (some dA) v).put (some dI) (.pointer (some ⟨g, L.length * inf.size, none⟩))) wX → oI.wp (T ()) (a.put (some dA) v) wX KK Q := fun wX hK => by
    refine wp_of_value (v := .pointer (some ⟨g, L.length * inf.size, none⟩)) (w' := wX) ?_ (by rw [i3]; exact hK)
    have h1 : (a.put (some dA) v).eval (.tmp dA) = v := eval_put_eq (by rw [← htl]; exact n7)
    have h2 : (a.put (some dA) v).eval li = .int .i64 nl := (evA n2).trans rl
    simp only [execOp, i1, h1, h2, Sem.run_bind]
    have hlt : nl < ((L.length + 1 : Nat) : Int) := by omega
    have hlt2 : ¬ ((L.length : Int) + 1 ≤ nl) := by omega
    have hge : 0 ≤ nl := by omega
    have hto : nl.toNat = L.length := by omega
    rw [hv]
    simp [Instr.indexAt, asIntOf, run_underlying e1, sizeOf, typeInfo, e2, hge, hlt, hlt2, hto, Addr.add_mid]
  have opS : ∀ {KK : Act → World → Prop} (wX : World), wX.heap[g]? = some (.cells cur el (0, 0)) → KK ((a.put (some dA) v).put (some dI) (.pointer (some ⟨g, L.length * inf.size, none⟩))) (wX.setRow g cs) → oS.wp (T ()) ((a.put (some dA) v).put (some dI) (.pointer (some ⟨g, L.length * inf.size, none⟩))) wX KK Q := fun {KK} wX hX hK => by
    have h1 : ((a.put (some dA) v).put (some dI) (.pointer (some ⟨g, L.length * inf.size, none⟩))).eval (.tmp dI) = .pointer (some ⟨g, L.length * inf.size, none⟩) := eval_put_eq (by show _ < (a.tmps.setIfInBounds dA v).size; rw [Array.size_setIfInBounds, ← htl]; exact n8)
    have h2 : ((a.put (some dA) v).put (some dI) (.pointer (some ⟨g, L.length * inf.size, none⟩))).eval xS = a.eval xS := (eval_put_ne n4).trans (evA n3)
    have : (execOp ((a.put (some dA) v).put (some dI) (.pointer (some ⟨g, L.length * inf.size, none⟩))).eval oS).run (T ()) wX = .ok .skip (wX.setRow g cs) := by
      simp only [execOp, s1, h1, h2, Sem.run_bind, runS wX hX]
      rfl
    unfold Oper.wp
    rw [this]
    show KK (Act.put _ oS.dst undef) _
    rw [s3]
    exact hK
  have opD : ∀ {KK : Act → World → Prop} (aX : Act) (wX : World), aX.eval (.tmp dA) = v → aX.eval pD = a.eval pD → wX.heap[bD]? = some (.cells vsD tB (0, 0)) → KK aX (wX.setRow bD #[v]) → oD.wp (T ()) aX wX KK Q := fun {KK} aX wX h1 h2 hX hK => by
    have : (execOp aX.eval oD).run (T ()) wX = .ok .skip (wX.setRow bD #[v]) := by
      simp only [execOp, d1, h1, h2, hpv, Sem.run_bind, runD wX hX]
      rfl
    unfold Oper.wp
    rw [this]
    show KK (Act.put _ oD.dst undef) _
    rw [d3]
    exact hK
  have evD1 : (a.put (some dA) v).eval (.tmp dA) = v := eval_put_eq (by rw [← htl]; exact n7)
  have evP1 : (a.put (some dA) v).eval pD = a.eval pD := evA n5
  have evD2 : ((a.put (some dA) v).put (some dI) (.pointer (some ⟨g, L.length * inf.size, none⟩))).eval (.tmp dA) = v := (eval_put_ne (fun e => n1 (by cases e; rfl))).trans evD1
  have evP2 : ((a.put (some dA) v).put (some dI) (.pointer (some ⟨g, L.length * inf.size, none⟩))).eval pD = a.eval pD := (eval_put_ne n6).trans evP1
  have at_ : ∀ {i : Nat} {o : Oper}, l[i]? = some o → l.toArray[i]? = some o := fun h => by simpa using h
  have hsize : l.toArray.size - n = 4 := by simp [hlen]
  rw [hsize]
  simp only [growB, Bool.and_eq_true, beq_iff_eq] at hb
  obtain ⟨b0, b1, b2, b3, b4, b5, b6, b7, b8, b9⟩ := hb
  refine any_step b0 (by simp) fun i hi => ?_
  obtain rfl : i = n := by simpa using hi
  refine op_at (at_ hA) a2 (opA ?_)
  refine any_step b1 (by simp) fun i' hi' => ?_
  rcases (by simpa using hi' : i' = i + 1 ∨ i' = i + 3) with rfl | rfl
  · refine op_at (at_ hI) i2 (opI _ ?_)
    refine any_step b2 (by simp) fun i2' hi2 => ?_
    rcases (by simpa using hi2 : i2' = i + 2 ∨ i2' = i + 3) with rfl | rfl
    · refine op_at (at_ hS) s2 (opS _ hg ?_)
      refine any_step b4 (by simp) fun i3' hi3 => ?_
      obtain rfl : i3' = i + 3 := by simpa using hi3
      refine op_at (at_ hD) d2 (opD _ _ evD2 evP2 hgD2 ?_)
      exact ⟨b7, fin⟩
    · refine op_at (at_ hD) d2 (opD _ _ evD2 evP2 hgD1 ?_)
      refine any_step b5 (by simp) fun i3' hi3 => ?_
      obtain rfl : i3' = i + 2 := by simpa using hi3
      refine op_at (at_ hS) s2 (opS _ hgS ?_)
      rw [hcomm]
      exact ⟨b8, fin⟩
  · refine op_at (at_ hD) d2 (opD _ _ evD1 evP1 hgD1 ?_)
    refine any_step b3 (by simp) fun i2' hi2 => ?_
    obtain rfl : i2' = i + 1 := by simpa using hi2
    refine op_at (at_ hI) i2 (opI _ ?_)
    refine any_step b6 (by simp) fun i3' hi3 => ?_
    obtain rfl : i3' = i + 2 := by simpa using hi3
    refine op_at (at_ hS) s2 (opS _ hgS ?_)
    rw [hcomm]
    exact ⟨b9, fin⟩
theorem TailK.growE {T : TP} {l : List Oper} {n : Nat} {ts : List D} {h : H} {K : List D → H → Prop} {oA oI oS oD : Oper} {dA dI : Tmp} {s z li xS pD : Operand} {t tz tD el el' sz bytes bytes' : Nat} {tag : Option Nat} {zd : D} {id : Nat} {L : List D} {nl : Int} {m : Nat} {es : List D} {idD : Nat} {tB : TypeId} {dB : D} {x : D}
    (he : ElemIs (T ()) t el sz bytes) (hze : ElemIs (T ()) tz el' sz bytes') (hb : growB l n = true) (hlen : l.length = n + 4)
    (hA : l[n]? = some oA) (a1 : oA.op = .call { callee := .builtin .append, args := #[s, z], argTypes := #[t, tz] }) (a2 : oA.guard = none) (a3 : oA.dst = some dA)
    (hI : l[n + 1]? = some oI) (i1 : oI.op = .indexAddr t (.tmp dA) li) (i2 : oI.guard = none) (i3 : oI.dst = some dI)
    (hS : l[n + 2]? = some oS) (s1 : oS.op = .store el (.tmp dI) xS) (s2 : oS.guard = none) (s3 : oS.dst = none)
    (hD : l[n + 3]? = some oD) (d1 : oD.op = .store tD pD (.tmp dA)) (d2 : oD.guard = none) (d3 : oD.dst = none)
    (n1 : dA ≠ dI) (n2 : li ≠ .tmp dA) (n3 : xS ≠ .tmp dA) (n4 : xS ≠ .tmp dI) (n5 : pD ≠ .tmp dA) (n6 : pD ≠ .tmp dI) (n7 : Nat.blt dA ts.length = true) (n8 : Nat.blt dI ts.length = true)
    (hiD : ((T ()).info? tD).map (·.size) = some 1)
    (hz : dv ts z = .sl tag sz [zd]) (hs : dv ts s = .sl (some id) sz L) (hid : h[id]? = some (.log el sz m)) (hm : m = L.length) (hro : L.length + 1 ≤ 140737488355328 ∧ (L.length + 1) * bytes ≤ 140737488355328)
    (hli : dv ts li = .raw (.int .i64 nl)) (hnl : nl = L.length) (hxv : dv ts xS = x) (hx : cellsD x = some es) (hxl : es.length = sz) (hxd : es.all leafD = true)
    (hpD : dv ts pD = .bx idD 0) (hhD : h[idD]? = some (.box tB [dB]))
    (k : ∀ L' m', L' = L ++ [x] → m' = L.length + 1 → K ((ts.set dA (.sl (some id) sz L')).set dI .any) ((h.set id (.log el sz m')).set idD (.box tB [.sl (some id) sz L']))) : TailK T l n ts h K := by
  obtain ⟨inf, h1, rfl, rfl, h4⟩ := he.out
  rw [Option.map_eq_some_iff] at hiD
  obtain ⟨infD, hiD, hiDs⟩ := hiD
  subst hm
  subst hxv
  exact TailK.grow hb hlen hA a1 a2 a3 hI i1 i2 i3 hS s1 s2 s3 hD d1 d2 d3 n1 n2 n3 n4 n5 n6 n7 n8 h1 h4 hiD hiDs (by rw [hz]; exact srcD_sl hze) hs hid (by simp only [roomy, Bool.and_eq_true, decide_eq_true_eq]; exact hro) hli hnl hx hxl hxd hpD hhD (k _ _ rfl rfl)
/-! ### Three last operations, of which the last two wait for the first or for nothing -/
theorem wlist_app {T : TP} {ops : Array Oper} {o : Oper} {l' : List Oper} {ts : List D} {h : H} {K : List D → H → Prop} (k : wlist T ops (o :: l') ts h K) : wlist T ops [o] ts h fun ts h => wlist T ops l' ts h K := by
  unfold wlist at k ⊢
  exact k
def ways3 (l : List Oper) (n : Nat) : Bool :=
  let r := Region.ready .any l.toArray
  let L0 := (doneA n 3).setIfInBounds n true
  let L1 := (doneA n 3).setIfInBounds (n + 1) true
  r (doneA n 3) == [n, n + 1] && (r L0 == [n + 1, n + 2] && (r L1 == [n] && (r (L0.setIfInBounds (n + 1) true) == [n + 2] && (r (L0.setIfInBounds (n + 2) true) == [n + 1] && (r (L1.setIfInBounds n true) == [n + 2] &&
    (r ((L0.setIfInBounds (n + 1) true).setIfInBounds (n + 2) true) == [] && (r ((L0.setIfInBounds (n + 2) true).setIfInBounds (n + 1) true) == [] && r ((L1.setIfInBounds n true).setIfInBounds (n + 2) true) == [])))))))
theorem TailK.three {T : TP} {l : List Oper} {n : Nat} {ts : List D} {h : H} {K : List D → H → Prop} {o0 o1 o2 : Oper} (hb : ways3 l n = true) (hlen : l.length = n + 3) (h0 : l[n]? = some o0) (h1 : l[n + 1]? = some o1) (h2 : l[n + 2]? = some o2)
    (k : wlist T l.toArray [o0] ts h (fun ts h => wlist T l.toArray [o1, o2] ts h K ∧ wlist T l.toArray [o2, o1] ts h K) ∧ wlist T l.toArray [o1, o0, o2] ts h K) : TailK T l n ts h K := by
  refine ⟨fun C w a Q s ta hk => ?_⟩
  have at_ : ∀ {i : Nat} {o : Oper}, l[i]? = some o → l.toArray[i]? = some o := fun h => by simpa using h
  have hsize : l.toArray.size - n = 3 := by simp [hlen]
  rw [hsize]
  simp only [ways3, Bool.and_eq_true, beq_iff_eq] at hb
  obtain ⟨b0, b1, b2, b3, b4, b5, b6, b7, b8⟩ := hb
  refine any_step b0 (by simp) fun i hi => ?_
  rcases (by simpa using hi : i = n ∨ i = n + 1) with rfl | rfl
  · refine op_list (at_ h0) (wlist_sound k.1 s ta fun ts1 h1' a1 C1 w1 k1 f1 s1 t1 => ?_)
    refine any_step b1 (by simp) fun i' hi' => ?_
    rcases (by simpa using hi' : i' = i + 1 ∨ i' = i + 2) with rfl | rfl
    · have k2 : wlist T l.toArray [o1] ts1 h1' fun ts h => wlist T l.toArray [o2] ts h K := wlist_app (l' := [o2]) k1.1
      refine op_list (at_ h1) (wlist_sound k2 s1 t1 fun ts2 h2' a2 C2 w2 k2 f2 s2 t2 => ?_)
      refine any_step b3 (by simp) fun i2' hi2 => ?_
      obtain rfl : i2' = i + 2 := by simpa using hi2
      refine op_list (at_ h2) (wlist_sound k2 s2 t2 fun ts3 h3' a3 C3 w3 k3 f3 s3 t3 => ?_)
      exact ⟨b6, hk _ _ _ _ _ k3 ((f1.trans f2).trans f3) s3 t3⟩
    · have k2 : wlist T l.toArray [o2] ts1 h1' fun ts h => wlist T l.toArray [o1] ts h K := wlist_app (l' := [o1]) k1.2
      refine op_list (at_ h2) (wlist_sound k2 s1 t1 fun ts2 h2' a2 C2 w2 k2 f2 s2 t2 => ?_)
      refine any_step b4 (by simp) fun i2' hi2 => ?_
      obtain rfl : i2' = i + 1 := by simpa using hi2
      refine op_list (at_ h1) (wlist_sound k2 s2 t2 fun ts3 h3' a3 C3 w3 k3 f3 s3 t3 => ?_)
      exact ⟨b7, hk _ _ _ _ _ k3 ((f1.trans f2).trans f3) s3 t3⟩
  · have k1 : wlist T l.toArray [o1] ts h fun ts h => wlist T l.toArray [o0, o2] ts h K := wlist_app (l' := [o0, o2]) k.2
    refine op_list (at_ h1) (wlist_sound k1 s ta fun ts1 h1' a1 C1 w1 k1 f1 s1 t1 => ?_)
    refine any_step b2 (by simp) fun i' hi' => ?_
    obtain rfl : i' = n := by simpa using hi'
    have k2 : wlist T l.toArray [o0] ts1 h1' fun ts h => wlist T l.toArray [o2] ts h K := wlist_app (l' := [o2]) k1
    refine op_list (at_ h0) (wlist_sound k2 s1 t1 fun ts2 h2' a2 C2 w2 k2 f2 s2 t2 => ?_)
    refine any_step b5 (by simp) fun i2' hi2 => ?_
    obtain rfl : i2' = i' + 2 := by simpa using hi2
    refine op_list (at_ h2) (wlist_sound k2 s2 t2 fun ts3 h3' a3 C3 w3 k3 f3 s3 t3 => ?_)
    exact ⟨b8, hk _ _ _ _ _ k3 ((f1.trans f2).trans f3) s3 t3⟩
end Go.Proofs.Ytllehceckdcbaaa.Pv
