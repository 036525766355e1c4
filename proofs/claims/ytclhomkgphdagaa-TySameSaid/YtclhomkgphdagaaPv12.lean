/- The evaluator over data (see NOTES, 'Pv'): part Pv12. -/
import Derived.Test.YtclhomkgphdagaaPv11
namespace Go.Proofs.Ytclhomkgphdagaa.Pv
open Go Go.RowKit
section
variable {P : Program}
def isAppend : Op → Bool
  | .call { callee := .builtin .append, .. } => true
  | _ => false
def isStoreOp : Op → Bool
  | .store .. => true
  | _ => false
/-- Whose value it is that a result speaks of: a store's is its address. -/
def ptrOf (o : Oper) (a : Act) (v : Value) : Value :=
  match o.op with
  | .store _ x _ => a.eval x
  | _ => v
def tmpNe : Operand → Operand → Bool
  | .tmp s, .tmp t => s != t
  | _, _ => true
def hAppend (P : Program) (t tx : TypeId) (s : HD) (x : D) : Option HD :=
  match elemP P t with
  | some (e, inf) =>
    match srcD P tx inf.size x with
    | some ys =>
      if 0 < inf.size ∧ inf.zero.map (·.cells.size) = some inf.size then
        match s with
        | .d (.raw (.slice none 0 0)) => if roomy ys.length inf.bytes = true then some (.fs e inf.size ys) else none
        | .fs e' sz ds => if e' = e ∧ sz = inf.size ∧ roomy (ds.length + ys.length) inf.bytes = true then some (.fs e inf.size (ds ++ ys)) else none
        | _ => none
      else none
    | none => none
  | none => none
def hop (P : Program) (penv : FuncId → List D → Option D) (ρ : Operand → HD) (o : Oper) (h : H) : Option HD :=
  match o.op with
  | .alloc t => match zeroD P t with
    | some ds => some (.fb t ds)
    | none => none
  | .box t x => match cellsD (hdD (ρ x)) with
    | some ds => if ds.all leafD = true then some (.fb t ds) else none
    | none => none
  | .buildSlice t n parts => match buildRow P t n (pairD (fun x => hdD (ρ x)) parts) with
    | some (e, sz, l) => if leafSize P e = true then some (.fs e sz l) else none
    | none => none
  | .store t x y => match ρ x, cellsD (hdD (ρ y)), P.info? t with
    | .fb bt ds, some es, some i => if es.length = i.size ∧ es.length ≤ ds.length ∧ es.all leafD = true ∧ tmpNe x y = true then some (.fb bt (splice ds 0 es)) else none
    | _, _, _ => none
  | .call c => match c.callee with
    | .builtin .append => if c.args.size = 2 ∧ c.argTypes.size = 2 ∧ tmpNe (c.args.getD 0 (.const undef)) (c.args.getD 1 (.const undef)) = true then hAppend P (c.argTypes.getD 0 0) (c.argTypes.getD 1 0) (ρ (c.args.getD 0 (.const undef))) (hdD (ρ (c.args.getD 1 (.const undef)))) else none
    | .value f => match fnD (hdD (ρ f)) with
      | some (k, first, cap) => (pcall penv k (first ++ c.args.toList.map (fun x => hdD (ρ x)) ++ cap)).map HD.d
      | none => none
    | _ => (sop P (fun x => hdD (ρ x)) o h).map HD.d
  | _ => (sop P (fun x => hdD (ρ x)) o h).map HD.d
theorem HRd.wider {C : Cx} {w : World} {Z F G : Nat → Prop} (hFG : ∀ b, F b → G b) {hd : HD} {v : Value} (hr : HRd C w Z F hd v) : HRd C w Z G hd v := by
  cases hd with
  | d d => exact hr
  | fs e sz ds =>
    obtain ⟨xs, h2, h3, h4⟩ := hr
    exact ⟨xs, fun b hb => hFG b (h2 b hb), h3, h4⟩
  | fb t ds =>
    obtain ⟨b, vs, h2, h3⟩ := hr
    exact ⟨b, vs, hFG b h2, h3⟩
theorem growM_same {w : World} {M : Nat → Prop} : GrowM w w M := ⟨rfl, rfl, rfl, Nat.le_refl _, fun _ _ _ => rfl⟩
theorem GrowM.of_grownBy {w w' : World} {row : Option Nat} {M : Nat → Prop} (h : w.grownBy w' row) (hm : ∀ b, row = some b → M b) : GrowM w w' M :=
  ⟨h.os, h.tape, h.output, h.size, fun b hb hn => h.block b hb fun e => hn (hm b e.symm)⟩
theorem hop_sound {penv : FuncId → List D → Option D} (hp : PureOk P penv) {C : Cx} {h : H} {w : World} {a : Act} {Z Fi : Nat → Prop} (s : Sim (CF C (fun b => Z b ∨ Fi b)) h w) (hC : ∀ b o, C.S b o → b < w.heap.size) (hZ : ∀ b, Z b → b < w.heap.size) (hFi : ∀ b, Fi b → b < w.heap.size ∧ ¬ Z b) (hCF : ∀ b o, C.S b o → ¬ Z b ∧ ¬ Fi b)
    {ρ : Operand → HD} {Fx : Operand → Nat → Prop} (hr : ∀ x, HRd C w Z (Fx x) (ρ x) (a.eval x)) (hsub : ∀ x b, Fx x b → Fi b) (hap : ∀ x y, tmpNe x y = true → ∀ b, Fx x b → Fx y b → False)
    {o : Oper} {hd : HD} (e : hop P penv ρ o h = some hd) {K : Act → World → Prop} {Q : Exit → Act → World → Prop}
    (hk : ∀ v w' (Z' F' : Nat → Prop), GrowM w w' (fun b => (isAppend o.op || isStoreOp o.op) = true ∧ Fi b) → (∀ b, Z b → Z' b) → (∀ b, Z' b → Z b ∨ Fi b ∨ (w.heap.size ≤ b ∧ b < w'.heap.size)) → (∀ b, F' b → (Fi b ∨ (w.heap.size ≤ b ∧ b < w'.heap.size)) ∧ ¬ Z' b) → HRd C w' Z' F' hd (ptrOf o a v) → K (a.put o.dst v) w') : o.wp P a w K Q := by
  have hreads : Reads (CF C (fun b => Z b ∨ Fi b)) w (fun x => hdD (ρ x)) a.eval := fun x => Rd.mono (CF.ev fun b hb => hb.imp id (hsub x b)) _ _ (hdD_rd (hr x))
  have noSt : isStoreOp o.op = false → ∀ v, ptrOf o a v = v := fun hs v => by
    unfold ptrOf
    split
    · rename_i hop; rw [hop] at hs; cases hs
    · rfl
  have hk0 : isStoreOp o.op = false → ∀ v w' (Z' F' : Nat → Prop), GrowM w w' (fun b => (isAppend o.op || isStoreOp o.op) = true ∧ Fi b) → (∀ b, Z b → Z' b) → (∀ b, Z' b → Z b ∨ Fi b ∨ (w.heap.size ≤ b ∧ b < w'.heap.size)) → (∀ b, F' b → (Fi b ∨ (w.heap.size ≤ b ∧ b < w'.heap.size)) ∧ ¬ Z' b) → HRd C w' Z' F' hd v → K (a.put o.dst v) w' := fun hs v w' Z' F' h1 h2 h3 h4 h5 => hk v w' Z' F' h1 h2 h3 h4 (by rw [noSt hs]; exact h5)
  have still : (∀ t x y, o.op ≠ .store t x y) → (sop P (fun x => hdD (ρ x)) o h).map HD.d = some hd → o.wp P a w K Q := fun hns e1 => by
    rw [Option.map_eq_some_iff] at e1
    obtain ⟨d, e2, rfl⟩ := e1
    obtain ⟨v, h1, h2⟩ := sop_sound s hreads e2
    refine wp_of_value h1 (hk v w (fun b => Z b ∨ Fi b) (fun _ => False) growM_same (fun b hb => .inl hb) (fun b hb => hb.imp id .inl) (fun b hb => hb.elim) ?_)
    rw [noSt (by unfold isStoreOp; split <;> first | rfl | (rename_i hop; exact absurd hop (hns _ _ _)))]
    exact h2
  have hZF : ∀ b, (Z b ∨ Fi b) → b < w.heap.size := fun b hb => hb.elim (hZ b) fun h => (hFi b h).1
  have fresh : ∀ (o' : Obj), Ev (CF C (fun b => Z b ∨ Fi b)) w (CF C (fun b => Z b ∨ Fi b)) (w.alloc o') := fun o' => ⟨rfl, rfl, rfl, by simp, fun _ _ h => h, fun b o hs => World.cell?_of_block (a := ⟨b, o, none⟩) (Below.heap_alloc w o' b (hs.elim (hC b o) (hZF b))), fun _ _ h => h, fun _ u h => ⟨u, h, .inl rfl⟩⟩
  have growA : ∀ (o' : Obj), GrowM w (w.alloc o') (fun b => (isAppend o.op || isStoreOp o.op) = true ∧ Fi b) := fun o' => ⟨rfl, rfl, rfl, by simp, fun b hb _ => Below.heap_alloc w o' b hb⟩
  have newF : ∀ (o' : Obj), ∀ b, b = w.heap.size → (Fi b ∨ (w.heap.size ≤ b ∧ b < (w.alloc o').heap.size)) ∧ ¬ (Z b ∨ Fi b) := fun o' b e => ⟨.inr (by subst e; simp), fun hb => by have := hZF b hb; omega⟩
  unfold hop at e
  split at e
  · rename_i t ho
    split at e
    · rename_i ds hz
      cases e
      obtain ⟨i, z, h1, h2, h3, rfl⟩ := zeroD_some hz
      refine wp_of_value (v := .pointer (some ⟨w.heap.size, 0, none⟩)) (w' := w.alloc (.cells z.cells t)) ?_ (hk0 (by rw [ho]; rfl) _ _ (fun b => Z b ∨ Fi b) (fun b => b = w.heap.size) (growA _) (fun b hb => .inl hb) (fun b hb => hb.imp id .inl) (newF _) ?_)
      · simp [execOp, ho, Instr.alloc, zeroValue, typeInfo, h1, h2, newVar, newRow]
      · exact ⟨w.heap.size, z.cells, rfl, rfl, heap_alloc_new w _, RdL.raws _ _ _, h3⟩
    · cases e
  · rename_i t x ho
    split at e
    · rename_i ds hc
      split at e
      · rename_i hl
        cases e
        have hcs := (hreads x).cells hc
        refine wp_of_value (v := .pointer (some ⟨w.heap.size, 0, none⟩)) (w' := w.alloc (.cells (a.eval x).cells t)) ?_ (hk0 (by rw [ho]; rfl) _ _ (fun b => Z b ∨ Fi b) (fun b => b = w.heap.size) (growA _) (fun b hb => .inl hb) (fun b hb => hb.imp id .inl) (newF _) ?_)
        · simp [execOp, ho, Instr.box, newVar, newRow]
        · exact ⟨w.heap.size, (a.eval x).cells, rfl, rfl, heap_alloc_new w _, hcs.mono (fresh _), hcs.leaves hl⟩
      · cases e
    · cases e
  · rename_i t n parts ho
    split at e
    · rename_i el sz l hb
      split at e
      · rename_i hls
        cases e
        obtain ⟨cv, k1, k2, k3, k4, k5⟩ := buildRow_core (hreads.pairs parts) hb (fun i dd h1 h2 h3 => by
          unfold leafSize at hls
          rw [h1, h2] at hls
          simp only [Bool.or_eq_true, beq_iff_eq] at hls
          rcases hls with hls | hls
          · rw [h3] at hls; cases hls
          · exact hls)
        refine wp_of_value (v := .slice (some ⟨w.heap.size, 0, none⟩) n n) (w' := w.alloc (.cells cv el)) ?_ (hk0 (by rw [ho]; rfl) _ _ (fun b => Z b ∨ Fi b) (fun b => b = w.heap.size) (growA _) (fun b hb => .inl hb) (fun b hb => hb.imp id .inl) (newF _) ?_)
        · simp only [execOp, ho, Sem.run_bind, k1]
          rfl
        · refine ⟨cv.toList, fun b hb => ?_, ⟨by simpa [k4] using k2, .inr ⟨w.heap.size, n, cv, by rw [k4], Nat.zero_le _, heap_alloc_new w _, by rw [k4]; exact Nat.le_refl _, k3, k2, ?_⟩⟩, ?_⟩
          · simp [Value.ownBlock] at hb
            exact hb.symm
          · rw [k4, List.take_of_length_le (by simp [k2])]
          · refine RdE.mono (fresh _) sz l _ _ k5 fun j _ => ?_
            rw [Array.getElem?_toList]
      · cases e
    · cases e
  · rename_i t x y ho
    split at e
    · rename_i bt ds es i hx hy hi
      split at e
      · rename_i hcond
        obtain ⟨hl1, hl2, hleaf, hne⟩ := hcond
        cases e
        have hsd := hr x
        rw [hx] at hsd
        obtain ⟨b0, vs, g2, g4, g5, g6, g7⟩ := hsd
        have hyd : RdL (CF C (fun b => Z b ∨ Fx y b)) w es (a.eval y).cells.toList := (hdD_rd (hr y)).cells hy
        have hl := hyd.len
        have hone := hyd.leaves hleaf
        have hdl := g6.len
        have hrun := run_storeCells_at P b0 0 bt (a.eval y).cells.toList 0 vs w g5 (by simp at hl hdl ⊢; omega) hone
        rw [splice_toArray] at hrun
        have hst : (execOp a.eval o).run P w = .ok .skip (w.setRow b0 (splice vs.toList 0 (a.eval y).cells.toList).toArray) := by
          have hsz : (a.eval y).cells.size = i.size := by simp at hl; omega
          simp only [execOp, ho, Sem.run_bind, Instr.storeAt, g4, Instr.sureAddr, Sem.run_pure, Result.andThen_ok, storeVar, sizeOf, typeInfo, run_program, hi]
          rw [if_neg (by omega), hrun]
          rfl
        have hb0 : Fi b0 := hsub x b0 g2
        have hnG : ∀ b, (Z b ∨ Fx y b) → b ≠ b0 := fun b hb e => by
          subst e
          rcases hb with hb | hb
          · exact (hFi b hb0).2 hb
          · exact hap x y hne b g2 hb
        have ev : Ev (CF C (fun b => Z b ∨ Fx y b)) w (CF C (fun b => Z b ∨ Fx y b)) (w.setRow b0 (splice vs.toList 0 (a.eval y).cells.toList).toArray) := ⟨rfl, rfl, rfl, by simp, fun _ _ h => h, fun b o' hs => by
          refine cell_setRow_other _ _ _ _ ?_
          rcases hs with hs | hs
          · exact fun e => (hCF b o' hs).2 (by rw [show b = b0 from e]; exact hb0)
          · exact hnG b hs, fun _ _ h => h, fun _ u h => ⟨u, h, .inl rfl⟩⟩
        unfold Oper.wp
        rw [hst]
        refine hk undef _ (fun b => Z b ∨ Fx y b) (fun b => b = b0) ⟨rfl, rfl, rfl, by simp, fun b _ hn => setRow_other _ _ _ _ fun e => hn ⟨by rw [ho]; rfl, by rw [show b = b0 from e]; exact hb0⟩⟩ (fun b hb => .inl hb) (fun b hb => hb.imp id fun h => .inl (hsub y b h)) (fun b hb => ⟨.inl (by rw [hb]; exact hb0), fun hz => hnG b hz hb⟩) ?_
        have hpt : ptrOf o a undef = .pointer (some ⟨b0, 0, none⟩) := by unfold ptrOf; rw [ho]; exact g4
        rw [hpt]
        refine ⟨b0, _, rfl, rfl, setRow_heap w b0 vs _ bt (0, 0) g5, ?_, fun u hu => ?_⟩
        · have e1 := (g6.mono (CF.ev (C := C) (w := w) (F := Z) (G := fun b => Z b ∨ Fx y b) fun _ h => .inl h)).mono ev
          have e2 := hyd.mono ev
          simpa using e1.splice e2 0
        · simp only [splice, List.mem_append] at hu
          rcases hu with (hu | hu) | hu
          · exact g7 u (List.mem_of_mem_take hu)
          · exact hone u hu
          · exact g7 u (List.mem_of_mem_drop hu)
      · cases e
    · cases e
  · rename_i c ho
    have hns : isStoreOp o.op = false := by rw [ho]; rfl
    obtain ⟨callee, args, argTypes⟩ := c
    dsimp only at e
    split at e
    · split at e
      · rename_i hsz
        have hap' := hap _ _ hsz.2.2
        have hsd := hr (args.getD 0 (.const undef))
        have hxd := hdD_rd (hr (args.getD 1 (.const undef)))
        have hFs := hsub (args.getD 0 (.const undef))
        have hFxs := hsub (args.getD 1 (.const undef))
        generalize Fx (args.getD 0 (.const undef)) = Fs at hap' hsd hFs
        generalize Fx (args.getD 1 (.const undef)) = Fy at hap' hxd hFxs
        unfold hAppend at e
        split at e
        · rename_i el inf hel
          obtain ⟨h1, h2⟩ := elemP_some hel
          split at e
          · rename_i ys hsrc
            split at e
            · rename_i hc
              obtain ⟨hpos, hz'⟩ := hc
              rw [Option.map_eq_some_iff] at hz'
              obtain ⟨z, hz, hzs⟩ := hz'
              obtain ⟨news, k1, k2⟩ := srcD_sound hxd hsrc
              have happ : isAppend o.op = true := by rw [ho]; rfl
              have hrun : ∀ r, (Builtin.append_ #[argTypes.getD 0 0, argTypes.getD 1 0] o.type #[a.eval (args.getD 0 (.const undef)), a.eval (args.getD 1 (.const undef))]).run P w = r → (execOp a.eval o).run P w = (match r with | .ok v w' => .ok (.value v) w' | .halt x w' => .halt x w') := fun r hr => by
                have ho' := ho
                rw [size_two (.const undef) hsz.1, size_two 0 hsz.2.1] at ho'
                simp only [execOp, ho', Sem.run_bind, resolve, invoke, builtin, Sem.run_pure, Result.andThen_ok, List.map_toArray, List.map_cons, List.map_nil, hr]
                cases r <;> rfl
              -- the row, whatever it was
              have main : ∀ (ds : List D) (u : Value) (xs : List Value), a.eval (args.getD 0 (.const undef)) = u → (∀ b, u.ownBlock = some b → Fs b) → w.ownsRow 0 el inf.size u ds.length xs → RdE (CF C Z) w inf.size ds (fun j => xs[j]?) → roomy (ds.length + ys.length) inf.bytes = true → hd = .fs el inf.size (ds ++ ys) → o.wp P a w K Q := by
                intro ds u xs hu hown ho2 hds hro hhd
                subst hhd
                obtain ⟨r1, r2⟩ := roomy_some hro
                have hng0 : ∀ b, (Z b ∨ Fy b) → u.ownBlock ≠ some b := fun b hb e => by
                  rcases hb with hb | hb
                  · exact (hFi b (hFs b (hown b e))).2 hb
                  · exact hap' b (hown b e) hb
                have hlt0 : ∀ b, (Z b ∨ Fy b) → b < w.heap.size := fun b hb => hb.elim (hZ b) fun h => (hFi b (hFxs b h)).1
                have hds' : RdE (CF C (fun b => Z b ∨ Fy b)) w inf.size ds (fun j => xs[j]?) := RdE.mono (CF.ev fun _ h => .inl h) inf.size ds _ _ hds fun _ _ => rfl
                by_cases hm : 0 < ys.length
                · obtain ⟨v, w', g, q1, q2, q3, q4, q5, q6, q7⟩ := run_append_src (P := P) (argTypes.getD 0 0) (argTypes.getD 1 0) o.type el inf z h1 h2 hz hzs hpos ho2 k1 hm r1 r2
                  rw [← hu] at q1
                  have hng : ∀ b, (Z b ∨ Fy b) → b ≠ g := fun b hb e => by
                    subst e
                    rcases q5 with q5 | rfl
                    · exact hng0 _ hb q5
                    · exact Nat.lt_irrefl _ (hlt0 _ hb)
                  have ev : Ev (CF C (fun b => Z b ∨ Fy b)) w (CF C (fun b => Z b ∨ Fy b)) w' := ⟨q3.os, q3.tape, q3.output, q3.size, fun _ _ h => h, fun b o hs => by
                    refine World.cell?_of_block (a := ⟨b, o, none⟩) ?_
                    rcases hs with hs | hs
                    · exact q3.block b (hC b o hs) fun e => (hCF b o hs).2 (hFs b (hown b e.symm))
                    · exact q3.block b (hlt0 b hs) fun e => hng0 b hs e.symm, fun _ _ h => h, fun _ u h => ⟨u, h, .inl rfl⟩⟩
                  refine wp_of_value (hrun _ q1) (hk0 hns v w' (fun b => Z b ∨ Fy b) (fun b => b = g) (GrowM.of_grownBy q3 fun b hb => ⟨by rw [happ]; rfl, hFs b (hown b hb)⟩) (fun b hb => .inl hb) (fun b hb => hb.imp id fun h => .inl (hFxs b h)) (fun b hb => ⟨?_, fun hz => hng b hz hb⟩) ?_)
                  · subst hb
                    rcases q5 with q5 | rfl
                    · exact .inl (hFs _ (hown _ q5))
                    · exact .inr ⟨Nat.le_refl _, (q2.lt _ q4).2⟩
                  · refine ⟨xs ++ news, fun b hb => ?_, by rw [List.length_append]; exact q2, ?_⟩
                    · rw [q4] at hb
                      cases hb
                      rfl
                    · have e1 : RdE (CF C (fun b => Z b ∨ Fy b)) w' inf.size ds (fun j => xs[j]?) := RdE.mono ev inf.size ds _ _ hds' fun _ _ => rfl
                      have e2 : RdE (CF C (fun b => Z b ∨ Fy b)) w' inf.size ys (fun j => news[j]?) := RdE.mono ev inf.size ys _ _ k2 fun _ _ => rfl
                      refine RdE.app e1 e2 (fun j hj => ?_) (fun j hj => ?_)
                      · rw [List.getElem?_append_left (by rw [ho2.1]; exact hj)]
                      · rw [List.getElem?_append_right (by rw [ho2.1]; omega), ho2.1]
                        congr 1
                        omega
                · have hy : ys = [] := List.eq_nil_of_length_eq_zero (by omega)
                  subst hy
                  have hnews : news = [] := List.eq_nil_of_length_eq_zero (by have := k1.newsLen; simpa using this)
                  subst hnews
                  obtain ⟨ad, cap, rfl, j1, j2⟩ := ownsRow_form ho2
                  have q1 := run_append_nothing (P := P) w (argTypes.getD 0 0) (argTypes.getD 1 0) o.type el inf h1 h2 ad _ cap j1 _ k1
                  rw [← hu] at q1
                  refine wp_of_value (hrun _ q1) (hk0 hns _ w Z Fs growM_same (fun b hb => hb) (fun b hb => .inl hb) (fun b hb => ⟨.inl (hFs b hb), (hFi b (hFs b hb)).2⟩) ?_)
                  rw [List.append_nil, hu]
                  exact ⟨xs, hown, ho2, hds⟩
              split at e
              · rename_i hsnil
                split at e
                · rename_i hro
                  cases e
                  rw [hsnil] at hsd
                  simp only [HRd, Rd] at hsd
                  exact main [] (.slice none 0 0) [] hsd (fun b hb => by simp [Value.ownBlock] at hb) (World.ownsRow_nil _ _ _ _) trivial (by simpa using hro) rfl
                · cases e
              · rename_i e' sz ds hsfs
                split at e
                · rename_i hc2
                  obtain ⟨rfl, rfl, hro⟩ := hc2
                  cases e
                  rw [hsfs] at hsd
                  obtain ⟨xs, j2, j3, j4⟩ := hsd
                  exact main ds _ xs rfl j2 j3 j4 hro rfl
                · cases e
              · cases e
            · cases e
          · cases e
        · cases e
      · cases e
    · rename_i f
      split at e
      · rename_i k first cap hf
        rw [Option.map_eq_some_iff] at e
        obtain ⟨d, e, rfl⟩ := e
        unfold pcall at e
        split at e
        · rename_i es hes
          split at e
          · rename_i d' hd'
            have hfr : Rd (CF C (fun b => Z b ∨ Fi b)) w (hdD (ρ f)) (a.eval f) := hreads f
            have hargs : RdL (CF C (fun b => Z b ∨ Fi b)) w (first ++ args.toList.map (fun x => hdD (ρ x)) ++ cap) ((match a.eval f with | .func _ x y => x.toList | _ => []) ++ args.toList.map a.eval ++ (match a.eval f with | .func _ x y => y.toList | _ => [])) ∧ ∃ x y, a.eval f = .func (.func k) x y := by
              unfold fnD at hf
              split at hf
              · rename_i k' x y hv
                cases hf
                rw [hv] at hfr
                simp only [Rd] at hfr
                rw [hfr]
                exact ⟨((RdL.raws _ w _).app (hreads.map _)).app (RdL.raws _ w _), _, _, rfl⟩
              · rename_i k' x y hv
                cases hf
                rw [hv] at hfr
                simp only [Rd] at hfr
                obtain ⟨vs, us, e1, r1, r2⟩ := hfr
                rw [e1]
                exact ⟨(r1.app (hreads.map _)).app r2, _, _, rfl⟩
              · cases hf
            obtain ⟨hargs, x, y, hev⟩ := hargs
            rw [hev] at hargs
            have hret := hp.ok k es d' hd' (CF C (fun b => Z b ∨ Fi b)).S w _ s.S (pureL_rd (C := CF C (fun b => Z b ∨ Fi b)) (C' := bare (CF C (fun b => Z b ∨ Fi b)).S) (fun _ _ h => h) _ hes hargs)
            have hrun : (execOp a.eval o).run P w = .ok (.enter k ((x.toList ++ args.toList.map a.eval ++ y.toList).toArray)) w := by
              simp only [execOp, ho, Sem.run_bind, resolve, hev, Deferred.ofValue, Sem.run_pure, Result.andThen_ok, invoke]
              rw [callable_run (hp.can k es d' hd')]
              congr 2
              apply Array.ext'
              simp
            unfold Oper.wp
            rw [hrun]
            refine Calls.mono hret ?_
            rintro e' w' ⟨v, S', rfl, j1, j2, j3, j4⟩
            refine hk0 hns v w' (fun b => (Z b ∨ Fi b) ∨ (w.heap.size ≤ b ∧ b < w'.heap.size)) (fun _ => False) (GrowM.of_below j1) (fun b hb => .inl (.inl hb)) (fun b hb => ?_) (fun b hb => hb.elim) ?_
            · rcases hb with (hb | hb) | hb
              · exact .inl hb
              · exact .inr (.inl hb)
              · exact .inr (.inr hb)
            refine pureD_rd (C := bare S') (C' := CF C (fun b => (Z b ∨ Fi b) ∨ (w.heap.size ≤ b ∧ b < w'.heap.size))) (fun b o hs => ?_) d' e j4
            have hlt := (j3 b o hs).1
            rcases Nat.lt_or_ge b w.heap.size with hb | hb
            · rcases (j3 b o hs).2 hb with h' | h'
              · exact Or.inl h'
              · exact Or.inr (Or.inl h')
            · exact Or.inr (Or.inr ⟨hb, hlt⟩)
          · cases e
        · cases e
      · cases e
    · exact still (fun t x y h => by rw [ho] at h; cases h) e
  · rename_i hnst _
    exact still (fun t x y h => hnst t x y h) e
end
end Go.Proofs.Ytclhomkgphdagaa.Pv
