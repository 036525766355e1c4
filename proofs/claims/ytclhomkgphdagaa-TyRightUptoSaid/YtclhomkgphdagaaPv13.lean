/- The evaluator over data (see NOTES, 'Pv'): part Pv13. -/
import Derived.Test.YtclhomkgphdagaaPv12
namespace Go.Proofs.Ytclhomkgphdagaa.Pv
open Go Go.RowKit
section
variable {P : Program}
def dstAt (l : List Oper) (i : Nat) : Option Tmp := (l[i]?).bind (·.dst)
def dstIx (l : List Oper) (t : Tmp) : Nat → Option Nat
  | 0 => none
  | n + 1 => match dstIx l t n with
    | some k => some k
    | none => if dstAt l n = some t then some n else none
theorem dstIx_some {l : List Oper} {t : Tmp} : ∀ {n k : Nat}, dstIx l t n = some k → k < n ∧ dstAt l k = some t
  | n + 1, k, e => by
    simp only [dstIx] at e
    split at e
    · rename_i k' h
      cases e
      obtain ⟨h1, h2⟩ := dstIx_some h
      exact ⟨by omega, h2⟩
    · split at e
      · rename_i h
        cases e
        exact ⟨Nat.lt_succ_self _, h⟩
      · cases e
theorem dstIx_none {l : List Oper} {t : Tmp} : ∀ {n : Nat}, dstIx l t n = none → ∀ k, k < n → dstAt l k ≠ some t
  | 0, _, k, hk => absurd hk (Nat.not_lt_zero _)
  | n + 1, e, k, hk => by
    simp only [dstIx] at e
    split at e
    · cases e
    · rename_i h
      split at e
      · cases e
      · rename_i h2
        by_cases hkn : k = n
        · subst hkn; exact h2
        · exact dstIx_none h k (by omega)
def depsOf (l : List Oper) (n : Nat) (o : Oper) : List Nat := o.op.operands.toList.filterMap fun | .tmp t => dstIx l t n | _ => none
def hval (l : List Oper) (n : Nat) (ts : List D) (hs : List HD) (o : Oper) : Operand → HD
  | .tmp t => match dstIx l t n with
    | some k => if (depsOf l n o).contains k = true then hs.getD k (.d .any) else .d .any
    | none => .d (ts.getD t .any)
  | x => .d (dv ts x)
def hwanted (l : List Oper) (hs : List HD) (o : Oper) : Option Bool :=
  match o.guard with
  | none => some true
  | some (j, want) => match dstAt l j, hs[j]? with
    | some _, some (.d (.raw (.bool b))) => some (b == want)
    | some _, some (.d (.raw (.tuple _))) => some false
    | _, _ => none
def hstep (P : Program) (penv : FuncId → List D → Option D) (l : List Oper) (n : Nat) (ts : List D) (h : H) (hs : List HD) (o : Oper) : Option HD :=
  match hwanted l hs o with
  | some true => hop P penv (hval l n ts hs o) o h
  | some false => some (.d (.raw undef))
  | none => none
def hrun (P : Program) (penv : FuncId → List D → Option D) (l : List Oper) (n : Nat) (ts : List D) (h : H) : Nat → Option (List HD)
  | 0 => some []
  | i + 1 => match hrun P penv l n ts h i, l[i]? with
    | some hs, some o => match hstep P penv l n ts h hs o with
      | some d => some (hs ++ [d])
      | none => none
    | _, _ => none
theorem hrun_spec {penv : FuncId → List D → Option D} {l : List Oper} {n : Nat} {ts : List D} {h : H} : ∀ {m : Nat} {hs : List HD}, hrun P penv l n ts h m = some hs → hs.length = m ∧ ∀ i, i < m → ∃ o d, l[i]? = some o ∧ hs[i]? = some d ∧ hstep P penv l n ts h (hs.take i) o = some d
  | 0, hs, e => by simp only [hrun, Option.some.injEq] at e; subst e; exact ⟨rfl, fun i hi => absurd hi (Nat.not_lt_zero _)⟩
  | m + 1, hs, e => by
    simp only [hrun] at e
    split at e
    · rename_i hs' o h1 h2
      split at e
      · rename_i d h3
        cases e
        obtain ⟨k1, k2⟩ := hrun_spec h1
        refine ⟨by simp [k1], fun i hi => ?_⟩
        by_cases him : i < m
        · obtain ⟨o', d', j1, j2, j3⟩ := k2 i him
          refine ⟨o', d', j1, by rw [List.getElem?_append_left (by omega)]; exact j2, ?_⟩
          rw [List.take_append_of_le_length (by omega)]
          exact j3
        · have : i = m := by omega
          subst this
          refine ⟨o, d, h2, by rw [List.getElem?_append_right (by omega), k1]; simp, ?_⟩
          rw [List.take_append_of_le_length (by omega), List.take_of_length_le (by omega)]
          exact h3
      · cases e
    · cases e
def consOf (l : List Oper) (n : Nat) (hs : List HD) (i : Nat) : List Nat :=
  match l[i]? with
  | some o => (depsOf l n o).filter fun k => !(hs.getD k (.d .any)).isD
  | none => []
def muOf (l : List Oper) (i : Nat) : Bool :=
  match l[i]? with
  | some o => isAppend o.op || isStoreOp o.op
  | none => false
/-- Whose pointer it is: a store speaks of the block that another operation has made. -/
def ptrIx (l : List Oper) (n i : Nat) : Nat :=
  match l[i]? with
  | some o => match o.op with
    | .store _ (.tmp t) _ => match dstIx l t n with
      | some k => k
      | none => i
    | _ => i
  | none => i
def storeB (l : List Oper) (n : Nat) : Bool :=
  (List.range n).all fun i => match l[i]? with
    | some o => !isStoreOp o.op || (o.dst.isNone && decide (ptrIx l n i < i))
    | none => true
def waitsB (l : List Oper) (n : Nat) : Bool :=
  (List.range n).all fun i => match l[i]? with
    | some o => (depsOf l n o).all (fun k => waits l.toArray i k) && (match o.guard with | some (j, _) => decide (j < n) && waits l.toArray i j | none => true)
    | none => true
def deadB (l : List Oper) (n : Nat) (hs : List HD) (i : Nat) : Bool := (List.range n).any fun c => (consOf l n hs c).contains i
def hfin (l : List Oper) (n : Nat) (hs : List HD) (dead : Nat → Bool) : Nat → List D → H → List D × H
  | 0, ts, h => (ts, h)
  | i + 1, ts, h =>
    let r := hfin l n hs dead i ts h
    match hs.getD i (.d .any) with
    | .d d => (putD r.1 (dstAt l i) d, r.2)
    | .fs e sz ds => if dead i = true then (putD r.1 (dstAt l i) .any, r.2) else (putD r.1 (dstAt l i) (.sl (some r.2.length) sz ds), r.2 ++ [.log e sz ds.length])
    | .fb t ds => if dead i = true then (putD r.1 (dstAt l i) .any, r.2) else (putD r.1 (dstAt l (ptrIx l n i)) (.bx r.2.length 0), r.2 ++ [.box t ds])
def findHead (l : List Oper) : Nat → Nat → Option Nat
  | 0, _ => none
  | f + 1, n => if headB .any l.toArray n = true then some n else findHead l f (n + 1)
def staticB (l : List Oper) (n m : Nat) (hs : List HD) : Bool :=
  headB .any l.toArray n && dstsB l.toArray n m && (waitsB l n && storeB l n) && consB l.toArray n (consOf l n hs)
def adraw (P : Program) (call : FuncId → List D → H → Option (D × H)) (penv : FuncId → List D → Option D) (l : List Oper) (ts : List D) (h : H) : Option (List D × H) :=
  match findHead l (l.length + 1) 0 with
  | some n => match hrun P penv l n ts h n with
    | some hs => if staticB l n ts.length hs = true then
        let r := hfin l n hs (deadB l n hs) n ts h
        alist P call l.toArray (l.drop n) r.1 r.2
      else none
    | none => none
  | none => none
/-! ### It is so -/
def PzD (C : Cx) (hs : List HD) (i : Nat) (U : Nat → Value) (w : World) (Z : Nat → Prop) : Prop := ∀ d, hs.getD i (.d .any) = .d d → Rd (CF C Z) w d (U i)
def HD.isFb : HD → Bool
  | .fb _ _ => true
  | _ => false
def vIx (l : List Oper) (n i : Nat) (hd : HD) : Nat := if hd.isFb = true then ptrIx l n i else i
def ReD (C : Cx) (l : List Oper) (n : Nat) (hs : List HD) (i : Nat) (U : Nat → Value) (w : World) (Z F : Nat → Prop) : Prop :=
  (hs.getD i (.d .any)).isD = false → HRd C w Z F (hs.getD i (.d .any)) (U (vIx l n i (hs.getD i (.d .any))))
theorem hop_store {penv : FuncId → List D → Option D} {ρ : Operand → HD} {o : Oper} {h : H} {hd : HD} (hs : isStoreOp o.op = true) (e : hop P penv ρ o h = some hd) : ∃ t x y, o.op = .store t x y ∧ hd.isFb = true ∧ (ρ x).isFb = true := by
  unfold isStoreOp at hs
  split at hs
  · rename_i t x y ho
    refine ⟨t, x, y, ho, ?_⟩
    unfold hop at e
    rw [ho] at e
    simp only at e
    split at e
    · rename_i bt ds es i hx hy hi
      split at e
      · cases e
        exact ⟨rfl, by rw [hx]; rfl⟩
      · cases e
    · cases e
  · cases hs
theorem getElem?_bind_toArray (l : List Oper) (i : Nat) : (l.toArray[i]?).bind (·.dst) = dstAt l i := by simp [dstAt]
theorem vIx_self {l : List Oper} {n : Nat} (hsb : storeB l n = true) {k t : Nat} (hkn : k < n) (hkd : dstAt l k = some t) (hd : HD) : vIx l n k hd = k := by
  unfold vIx
  split
  · have hoik := List.all_eq_true.1 hsb k (List.mem_range.2 hkn)
    unfold ptrIx
    cases hlk : l[k]? with
    | none => rfl
    | some ok =>
      rw [hlk] at hoik
      simp only
      split
      · rename_i hop
        have hso : isStoreOp ok.op = true := by rw [hop]; rfl
        simp only [hso, Bool.not_true, Bool.false_or, Bool.and_eq_true] at hoik
        simp only [dstAt, hlk, Option.bind_some] at hkd
        rw [hkd] at hoik
        simp at hoik
      · rfl
  · rfl
theorem duty_sound {penv : FuncId → List D → Option D} (hp : PureOk P penv) {l : List Oper} {n : Nat} {ts : List D} {h : H} {hs : List HD} {C : Cx} {W : World} {a0 : Act} (s0 : Sim C h W) (ta0 : TA C W ts a0) (hr : hrun P penv l n ts h n = some hs) (hw : waitsB l n = true) (hsb : storeB l n = true) {i : Nat} {o : Oper} (hi : i < n) (ho : l.toArray[i]? = some o)
    (hdst : ∀ k k' t, k < n → k' < n → dstAt l k = some t → dstAt l k' = some t → k = k') :
    Duty3 P l.toArray n (consOf l n hs) (muOf l) (PzD C hs) (ReD C l n hs) a0 W i o := by
  have hoi : l[i]? = some o := by simpa using ho
  obtain ⟨hlen, hspec⟩ := hrun_spec hr
  obtain ⟨o', hd, e1, hhd, hst⟩ := hspec i hi
  rw [hoi] at e1
  cases e1
  have hgd : hs.getD i (.d .any) = hd := by simp [List.getD, hhd]
  have hwi := List.all_eq_true.1 hw i (List.mem_range.2 hi)
  rw [hoi] at hwi
  simp only [Bool.and_eq_true] at hwi
  have hcons : consOf l n hs i = (depsOf l n o).filter fun k => !(hs.getD k (.d .any)).isD := by simp [consOf, hoi]
  have hmu : muOf l i = (isAppend o.op || isStoreOp o.op) := by simp [muOf, hoi]
  intro a w Q K V Z F hb hother hdeps hzb hpz hre hapart hk
  obtain ⟨sw, fw⟩ := s0.below hb
  have hdeps' : ∀ k t, k < n → waits l.toArray i k = true → dstAt l k = some t → a.tmps[t]? = some (V k) := fun k t h1 h2 h3 => hdeps k t h1 h2 ((getElem?_bind_toArray l k).trans h3)
  let Fi : Nat → Prop := fun b => ∃ k, k ∈ consOf l n hs i ∧ F k b
  have hFi : ∀ b, Fi b → W.heap.size ≤ b ∧ b < w.heap.size ∧ ¬ Z b := fun b ⟨k, hk, hf⟩ => (hre k hk).2 b hf
  have hC : ∀ b o, C.S b o → b < W.heap.size := s0.S
  have sCF : Sim (CF C (fun b => Z b ∨ Fi b)) h w := sw.ext_S fun b hf => by
    have hbb : W.heap.size ≤ b ∧ b < w.heap.size := hf.elim (hzb b) fun h => ⟨(hFi b h).1, (hFi b h).2.1⟩
    exact ⟨hbb.2, fun id hb' => by have := s0.lt id b hb'; omega⟩
  -- what is put in
  have done : ∀ (v : Value) (w' : World) (Z' F' : Nat → Prop), GrowM w w' (fun b => muOf l i = true ∧ ∃ k, k ∈ consOf l n hs i ∧ F k b) → (∀ b, Z b → Z' b) → (∀ b, Z' b → Z b ∨ Fi b ∨ (w.heap.size ≤ b ∧ b < w'.heap.size)) → (∀ b, F' b → (Fi b ∨ (w.heap.size ≤ b ∧ b < w'.heap.size)) ∧ ¬ Z' b) →
      HRd C w' Z' F' hd (mask l.toArray i (upd V i v) (vIx l n i hd)) → K (a.put o.dst v) w' := fun v w' Z' F' hg hZ hZ' hF' hrd => by
    refine hk v w' Z' F' hg hZ hZ' hF' (fun d e => ?_) fun _ => ?_
    · rw [hgd] at e
      subst e
      exact hrd
    · rw [hgd]
      exact hrd
  have vSelf : ∀ v, vIx l n i hd = i → mask l.toArray i (upd V i v) (vIx l n i hd) = v := fun v e => by rw [e, mask_self, upd_same]
  unfold hstep at hst
  have hwant : ∀ b, hwanted l (hs.take i) o = some b → Region.wanted o (yielded l.toArray a.tmps) = b := fun b e => by
    unfold hwanted at e
    unfold Region.wanted
    split at e
    · rename_i hg
      cases e
      simp [hg]
    · rename_i j want hg
      rw [hg] at hwi
      simp only [Bool.and_eq_true, decide_eq_true_eq] at hwi
      obtain ⟨hjn, hjw⟩ := hwi.2
      have hj' := hpz j hjn hjw
      simp only [hg]
      have key : ∀ t u, dstAt l j = some t → (hs.take i)[j]? = some (.d (.raw u)) → a.tmps[t]? = some u := fun t u h1 h2 => by
        have h3 := hdeps' j t hjn hjw h1
        have h4 : hs.getD j (.d .any) = .d (.raw u) := by
          have hlt := (List.getElem?_eq_some_iff.1 h2).1
          rw [List.length_take] at hlt
          rw [List.getElem?_take_of_lt (by omega)] at h2
          simp [List.getD, h2]
        have h5 := hj' _ h4
        rw [mask_self] at h5
        simp only [Rd] at h5
        rw [h3, h5]
      split at e
      · rename_i t b' h1 h2
        cases e
        unfold yielded
        rw [getElem?_bind_toArray, h1]
        simp only [Option.bind_some, key _ _ h1 h2]
        cases b' <;> cases want <;> rfl
      · rename_i t u h1 h2
        cases e
        unfold yielded
        rw [getElem?_bind_toArray, h1]
        simp only [Option.bind_some, key _ _ h1 h2]
        rfl
      · cases e
  split at hst
  · rename_i hwt
    rw [hwant _ hwt, if_pos rfl]
    let Fx : Operand → Nat → Prop := fun x b => match x with
      | .tmp t => match dstIx l t n with
        | some k => k ∈ consOf l n hs i ∧ F k b
        | none => False
      | _ => False
    have hread : ∀ x, HRd C w Z (Fx x) (hval l n ts (hs.take i) o x) (a.eval x) := fun x => by
      cases x with
      | tmp t =>
        simp only [hval]
        cases hix : dstIx l t n with
        | none =>
          have h1 : a.tmps[t]? = a0.tmps[t]? := hother t fun k hk e => dstIx_none hix k hk ((getElem?_bind_toArray l k).symm.trans e)
          have h2 := (ta0.mono fw.toEv).reads (.tmp t)
          have h3 : a.eval (.tmp t) = a0.eval (.tmp t) := by simp [Act.eval, h1]
          rw [h3]
          exact Rd.mono CF.ev0 _ _ h2
        | some k =>
          obtain ⟨hkn, hkd⟩ := dstIx_some hix
          simp only
          split
          · rename_i hdep
            have hmem : k ∈ depsOf l n o := by simpa using hdep
            have hwk : waits l.toArray i k = true := (List.all_eq_true.1 hwi.1) k hmem
            have hval1 : a.eval (.tmp t) = V k := by
              have := hdeps' k t hkn hwk hkd
              simp [Act.eval, this]
            rw [hval1]
            by_cases hki : k < i
            · have e2 : (hs.take i).getD k (.d .any) = hs.getD k (.d .any) := by simp [List.getD, List.getElem?_take_of_lt hki]
              rw [e2]
              by_cases hraw : (hs.getD k (.d .any)).isD = true
              · have hpk := hpz k hkn hwk
                cases hh : hs.getD k (.d .any) with
                | d d =>
                  have := hpk d hh
                  rw [mask_self] at this
                  exact this
                | _ => rw [hh] at hraw; cases hraw
              · have hkc : k ∈ consOf l n hs i := by
                  rw [hcons]
                  exact List.mem_filter.2 ⟨hmem, by simpa using hraw⟩
                have h4 := (hre k hkc).1 (by simpa using hraw)
                rw [vIx_self hsb hkn hkd, mask_self] at h4
                exact HRd.wider (fun b hf => by simp [Fx, hix, hkc, hf]) h4
            · have e2 : (hs.take i).getD k (.d .any) = .d .any := by
                simp only [List.getD]
                rw [List.getElem?_eq_none (by rw [List.length_take]; omega)]
                rfl
              rw [e2]
              trivial
          · trivial
      | const v => exact (rfl : v = v)
      | global g => exact (rfl : (Value.pointer (some ⟨g, 0, none⟩)) = _)
      | func f => exact (rfl : (Value.func (.func f) #[] #[]) = _)
    refine hop_sound hp (Z := Z) (Fi := Fi) sCF (fun b o hs => Nat.lt_of_lt_of_le (hC b o hs) hb.size) (fun b hz => (hzb b hz).2) (fun b hf => (hFi b hf).2) (fun b o hs => ⟨fun hz => by have := hC b o hs; have := (hzb b hz).1; omega, fun hf => by have := hC b o hs; have := (hFi b hf).1; omega⟩) hread (fun x b hf => ?_) (fun x y hne b hfx hfy => ?_) hst fun v w' Z' F' hg hZ hZ' hF' hrd => done v w' Z' F' ?_ hZ hZ' hF' ?_
    · cases x with
      | tmp t =>
        simp only [Fx] at hf
        split at hf
        · exact ⟨_, hf⟩
        · exact hf.elim
      | _ => exact hf.elim
    · cases x with
      | tmp t =>
        cases y with
        | tmp t' =>
          simp only [Fx] at hfx hfy
          split at hfx
          · rename_i k hk1
            split at hfy
            · rename_i k' hk2
              have hkk : k ≠ k' := fun e => by
                subst e
                have h1 := (dstIx_some hk1).2
                rw [(dstIx_some hk2).2] at h1
                simp only [tmpNe] at hne
                cases h1
                simp at hne
              exact hapart k k' b hfx.1 hfy.1 hkk hfx.2 hfy.2
            · exact hfy.elim
          · exact hfx.elim
        | _ => exact hfy.elim
      | _ => exact hfx.elim
    · rw [hmu]
      exact hg
    · cases hso : isStoreOp o.op with
      | false =>
        have e1 : ptrOf o a v = v := by
          unfold ptrOf
          split
          · rename_i hop; rw [hop] at hso; cases hso
          · rfl
        have e2 : vIx l n i hd = i := by
          unfold vIx
          split
          · unfold ptrIx
            rw [hoi]
            simp only
            split
            · rename_i hop; rw [hop] at hso; cases hso
            · rfl
          · rfl
        rw [vSelf v e2]
        rwa [e1] at hrd
      | true =>
        obtain ⟨st, x, y, hop, hfb, hxf⟩ := hop_store hso hst
        -- the address is what another operation has made
        cases x with
        | tmp t =>
          simp only [hval] at hxf
          cases hix : dstIx l t n with
          | none => rw [hix] at hxf; cases hxf
          | some k =>
            rw [hix] at hxf
            simp only at hxf
            split at hxf
            · rename_i hdep
              have hmem : k ∈ depsOf l n o := by simpa using hdep
              have hwk : waits l.toArray i k = true := (List.all_eq_true.1 hwi.1) k hmem
              obtain ⟨hkn, hkd⟩ := dstIx_some hix
              have e2 : vIx l n i hd = k := by
                unfold vIx
                rw [if_pos hfb]
                unfold ptrIx
                rw [hoi]
                simp only [hop, hix]
              have hki : k ≠ i := fun e => by
                subst e
                have hoik := List.all_eq_true.1 hsb k (List.mem_range.2 hi)
                rw [hoi] at hoik
                simp only [hso, Bool.not_true, Bool.false_or, Bool.and_eq_true] at hoik
                simp only [dstAt, hoi, Option.bind_some] at hkd
                rw [hkd] at hoik
                simp at hoik
              rw [e2, mask_waits _ hwk, upd_other _ _ hki]
              have e1 : ptrOf o a v = V k := by
                unfold ptrOf
                rw [hop]
                have := hdeps' k t hkn hwk hkd
                simp [Act.eval, this]
              rwa [e1] at hrd
            · cases hxf
        | const v' => cases hxf
        | global g => cases hxf
        | func f => cases hxf
  · rename_i hwt
    rw [hwant _ hwt, if_neg (by simp)]
    cases hst
    refine done undef w Z (fun _ => False) growM_same (fun b hb => hb) (fun b hb => .inl hb) (fun b hf => hf.elim) ?_
    rw [vSelf undef rfl]
    rfl
  · cases hst
end
end Go.Proofs.Ytclhomkgphdagaa.Pv
