/- The open run with a second way out: lists, drawn regions, code, functions. -/
import Derived.Test.YtpnfbmhnmhahnaaPvX2
/-! ## Part 21 -/
namespace Go.Proofs.Ytpnfbmhnmhahnaa.Pv
open Go Go.RowKit
section
variable {T : TP}
def ylist (T : TP) (ops : Array Oper) (R : D → H → Prop) : List Oper → List D → H → (List D → H → Prop) → Prop
  | [], ts, h, K => K ts h
  | o :: rest, ts, h, K => match o.guard with
    | none => yop T (ownB ops o) (dv ts) o h R fun d h' => ylist T ops R rest (putD ts o.dst d) h' K
    | some (j, want) => match (ops[j]?).bind (·.dst) with
      | some t => match ts[t]? with
        | some (.raw (.bool b)) => gcase b want (fun _ => yop T (ownB ops o) (dv ts) o h R fun d h' => ylist T ops R rest (putD ts o.dst d) h' K) (fun _ => ylist T ops R rest (putD ts o.dst (.raw undef)) h K)
        | some (.raw (.tuple _)) => ylist T ops R rest (putD ts o.dst (.raw undef)) h K
        | _ => False
      | none => ylist T ops R rest (putD ts o.dst (.raw undef)) h K
theorem ylist_sound {ops : Array Oper} {R : D → H → Prop} {Q : Exit → Act → World → Prop} : ∀ {l : List Oper} {ts : List D} {h : H} {K : List D → H → Prop} {C : Cx} {w : World} {a : Act}, ylist T ops R l ts h K → Sim C h w → TA C w ts a →
    (∀ d h' a' C' w' v, R d h' → Fw C w C' w' → Sim C' h' w' → Rd C' w' d v → a'.defers = [] → Q (.panic [{ v, recovered := false }]) a' w') →
    (∀ ts' h' a' C' w', K ts' h' → Fw C w C' w' → Sim C' h' w' → TA C' w' ts' a' → Q .normal a' w') → wpList (T ()) ops Q l a w
  | [], ts, h, K, C, w, a, e, s, ta, hp, hk => hk ts h a C w e (Fw.refl _ _) s ta
  | o :: rest, ts, h, K, C, w, a, e, s, ta, hp, hk => by
    unfold wpList
    have yes : wantedD ops ts o = some true → yop T (ownB ops o) (dv ts) o h R (fun d h' => ylist T ops R rest (putD ts o.dst d) h' K) → wpList (T ()) ops Q (o :: rest) a w := fun hw e1 => by
      unfold wpList
      rw [wantedD_sound ta hw]
      refine .inl (yop_sound s ta.reads e1 (fun d h' v C' w' e2 f s' r => ?_) fun d h' v C' w' q f s' r => hp d h' a C' w' v q f s' r ta.defers)
      exact ylist_sound e2 s' ((ta.mono f.toEv).put r _) (fun d h' a' C' w' v q f' s' r hd => hp d h' a' C' w' v q (f.trans f') s' r hd) fun ts2 h2 a' C2 w2 k f2 s2 t2 => hk ts2 h2 a' C2 w2 k (f.trans f2) s2 t2
    have no : wantedD ops ts o = some false → ylist T ops R rest (putD ts o.dst (.raw undef)) h K → wpList (T ()) ops Q (o :: rest) a w := fun hw e1 => by
      unfold wpList
      rw [wantedD_sound ta hw]
      exact ylist_sound e1 s (ta.put (show Rd C w (.raw undef) undef from rfl) _) hp hk
    have main : wpList (T ()) ops Q (o :: rest) a w := by
      simp only [ylist] at e
      split at e
      · rename_i hg
        exact yes (by simp only [wantedD, hg]) e
      · rename_i j want hg
        split at e
        · rename_i t ht
          split at e
          · rename_i b hb
            have hw : wantedD ops ts o = some (b == want) := by simp only [wantedD, hg, ht, hb]
            have e := gcase_eq e
            split at e
            · rename_i hbw
              exact yes (by rw [hw, hbw]) e
            · rename_i hbw
              exact no (by rw [hw]; simpa using hbw) e
          · rename_i x hb
            exact no (by simp only [wantedD, hg, ht, hb]) e
          · exact e.elim
        · rename_i ht
          exact no (by simp only [wantedD, hg, ht]) e
    unfold wpList at main
    exact main
/-! ### Drawn regions -/
structure XTCallK (T : TP) (k : FuncId) (ds : List D) (h : H) (K : D → H → Prop) (N : (D → H → Prop) → Prop) : Prop where
  out : TCallK T k ds h K ∨ ∃ R, CX (T ()) k ds h (fun b d h' => b = false ∧ R d h') ∧ N R
def xstep (T : TP) (l : List Oper) (n : Nat) (ts vs : List D) (h : H) (o : Oper) (K : D → H → Prop) (N : (D → H → Prop) → Prop) : Prop :=
  match o.guard, o.op with
  | none, .call c => match c.callee with
    | .value f => match fnD (lval l n ts vs o f) with
      | some (k, first, cap) => XTCallK T k (first ++ c.args.toList.map (lval l n ts vs o) ++ cap) h K N
      | none => False
    | _ => wtstep T l n ts vs h o K
  | _, _ => wtstep T l n ts vs h o K
/-- The region's head is done: its loads may have come at any time; the tail goes on. -/
structure XDoneK (T : TP) (l : List Oper) (n : Nat) (ts vs : List D) (hst : List H) (free : List Nat) (go : Unit → Prop) : Prop where
  out : ordX l n n free = true ∧ FreeX (T ()) l n n ts vs hst free ∧ go ()
/-- An operation of the head panics: all behind it in the list wait for it. -/
structure XPanK (T : TP) (l : List Oper) (n : Nat) (ts vs : List D) (hst : List H) (free : List Nat) (R R0 : D → H → Prop) : Prop where
  out : (vs.length < n ∧ ordX l n (min (vs.length + 1) n) free = true ∧ ((List.range n).all fun k => decide (k ≤ vs.length) || ((ancL l n n).getD k []).contains vs.length) = true) ∧ FreeX (T ()) l n vs.length ts vs hst free ∧ ∀ d h', R0 d h' → R d h'
def xrun (T : TP) (l : List Oper) (n : Nat) (ts : List D) (free : List Nat) (R : D → H → Prop) (K : List D → H → Prop) : Nat → List D → List H → H → Prop
  | 0, vs, hst, h => XDoneK T l n ts vs hst free fun _ => ylist T l.toArray R (l.drop n) (lputs l vs n ts) h K
  | r + 1, vs, hst, h => match l[vs.length]? with
    | some o => xstep T l n ts vs h o (fun d h' => xrun T l n ts free R K r (vs ++ [d]) (hst ++ [h']) h') (XPanK T l n ts vs hst free R)
    | none => False
theorem xstep_ok {l : List Oper} {n : Nat} {ts vs : List D} {h : H} {o : Oper} {K : D → H → Prop} {N : (D → H → Prop) → Prop} (e : xstep T l n ts vs h o K N) :
    (∃ d h', TStep (T ()) l n ts vs h o d h' ∧ K d h') ∨ ∃ R, (isTurn o = true ∧ lwanted l vs o = some true ∧ PanicsP (T ()) (lval l n ts vs o) o h R) ∧ N R := by
  unfold xstep at e
  split at e
  · rename_i c hg ho
    split at e
    · rename_i f hc
      split at e
      · rename_i k first cap hf
        have hw : lwanted l vs o = some true := by simp only [lwanted, hg]
        have hturn : isTurn o = true := by
          unfold isTurn
          rw [ho]
          simp only [hc]
        rcases e.out with e | ⟨R, ⟨hcal, hret⟩, hN⟩
        · refine .inl (wtstep_ok ?_)
          unfold wtstep
          simp only [hg, hturn, if_true]
          unfold wturn
          rw [if_neg (by rw [ho]; simp [isBoxOp])]
          simp only [ho, hc, hf]
          exact e
        · refine .inr ⟨R, ⟨hturn, hw, ⟨fun C w a s hr Rw Q hq => ?_⟩⟩, hN⟩
          obtain ⟨callee, args, argTypes⟩ := c
          simp only at hc
          subst hc
          obtain ⟨x, y, hev, hargs⟩ := call_args (args := args) hr hf
          unfold Oper.wp
          rw [call_run ho hev hcal, Oper.upon_enter]
          refine Calls.mono (hret C w _ s hargs) ?_
          rintro e' w' ⟨b, v, C', d, h', rfl, ⟨rfl, k0⟩, k1, k2, k3⟩
          exact hq d h' v C' w' k0 k1 k2 k3
      · exact e.elim
    · exact .inl (wtstep_ok e)
  · exact .inl (wtstep_ok e)
theorem xrun_ok (hm : (T ()).follows .mixedOrders = true) {l : List Oper} {n : Nat} {ts : List D} {free : List Nat} {R : D → H → Prop} {K : List D → H → Prop} (h4 : headB .any l.toArray n = true ∧ dstsB l.toArray n ts.length = true ∧ waitsB l n = true) {h0 : H} :
    ∀ {r : Nat} {vs : List D} {hst : List H} {h : H}, xrun T l n ts free R K r vs hst h → vs.length + r = n → hst.length = vs.length + 1 → hst.getD 0 [] = h0 → hst.getD vs.length [] = h →
    (∀ i, i < vs.length → ∃ o d, l[i]? = some o ∧ vs[i]? = some d ∧ TStep (T ()) l n ts (vs.take i) (hst.getD i []) o d (hst.getD (i + 1) [])) →
    ∀ (id : Nat) {C : Cx} {w : World} {a0 : Act} {Q : Exit → Act → World → Prop}, Sim C h0 w → TA C w ts a0 →
    (∀ d h' a' C' w' v, R d h' → Fw C w C' w' → Sim C' h' w' → Rd C' w' d v → a'.defers = [] → Q (.panic [{ v, recovered := false }]) a' w') →
    (∀ ts' h' a' C' w', K ts' h' → Fw C w C' w' → Sim C' h' w' → TA C' w' ts' a' → Q .normal a' w') → (Code.region id l.toArray true).wp (T ()) Q a0 w
  | 0, vs, hst, h, e, hn, hl, hz, hh, hsp => fun id {C w a0 Q} s ta hp hk => by
    have hvn : vs.length = n := by omega
    obtain ⟨h5, h6, h7⟩ := e.out
    refine aturnX_core (Rp := R) hm (Nat.le_refl n) ⟨hvn, by omega, hz, fun i hi => hsp i (by omega)⟩ ⟨h4.1, h4.2.1, h4.2.2, by rw [Nat.min_eq_right (Nat.le_succ n)]; exact h5⟩ h6 (fun h => absurd h (Nat.lt_irrefl _)) id s ta hp fun _ a' C' w' f' s' t' => ?_
    rw [← hvn, hh] at s'
    exact ylist_sound h7 s' t' (fun d h' a' C' w' v q f2 s2 r hd => hp d h' a' C' w' v q (f'.trans f2) s2 r hd) fun ts' h' a' C' w' k f2 s2 t2 => hk ts' h' a' C' w' k (f'.trans f2) s2 t2
  | r + 1, vs, hst, h, e, hn, hl, hz, hh, hsp => fun id {C w a0 Q} s ta hp hk => by
    simp only [xrun] at e
    split at e
    · rename_i o ho
      rcases xstep_ok e with ⟨d, h', k1, k2⟩ | ⟨R0, ⟨q1, q2, q3⟩, q4⟩
      · have keep : ∀ q, q < vs.length + 1 → (hst ++ [h']).getD q [] = hst.getD q [] := fun q hq => by simp [List.getD, List.getElem?_append_left (show q < hst.length by omega)]
        have last : (hst ++ [h']).getD (vs.length + 1) [] = h' := by simp [List.getD, List.getElem?_append_right (show hst.length ≤ vs.length + 1 by omega), hl]
        refine xrun_ok hm h4 (h0 := h0) k2 (by simp; omega) (by simp [hl]) (by rw [keep 0 (by omega)]; exact hz) (by simpa using last) (fun i hi => ?_) id s ta hp hk
        by_cases hlt : i < vs.length
        · obtain ⟨o', d', j1, j2, j3⟩ := hsp i hlt
          refine ⟨o', d', j1, by rw [List.getElem?_append_left hlt]; exact j2, ?_⟩
          rw [List.take_append_of_le_length (by omega), keep i (by omega), keep (i + 1) (by omega)]
          exact j3
        · have : i = vs.length := by simp at hi; omega
          subst this
          refine ⟨o, d, ho, by rw [List.getElem?_append_right (Nat.le_refl _)]; simp, ?_⟩
          rw [List.take_append_of_le_length (Nat.le_refl _), List.take_of_length_le (Nat.le_refl _), keep _ (by omega), last, hh]
          exact k1
      · obtain ⟨⟨h5, h6, h7⟩, h8, h9⟩ := q4.out
        refine aturnX_core (Rp := R0) hm (Nat.le_of_lt h5) ⟨rfl, hl, hz, hsp⟩ ⟨h4.1, h4.2.1, h4.2.2, h6⟩ h8 (fun _ => ⟨⟨o, ho, q1, q2, by rw [hh]; exact q3⟩, fun k hk1 hk2 => ?_⟩) id s ta (fun d h' a' C' w' v q f' s' r hd => hp d h' a' C' w' v (h9 d h' q) f' s' r hd) fun hmn => absurd hmn (by omega)
        have := List.all_eq_true.1 h7 k (List.mem_range.2 hk2)
        simp only [Bool.or_eq_true, decide_eq_true_eq] at this
        exact this.resolve_left (by omega)
    · exact e.elim
structure YDrawK (T : TP) (l : List Oper) (ts : List D) (h : H) (R : D → H → Prop) (K : List D → H → Prop) : Prop where
  out : DrawK T l ts h K ∨ ∃ n free, (headB .any l.toArray n = true ∧ dstsB l.toArray n ts.length = true ∧ waitsB l n = true) ∧ xrun T l n ts free R K n [] [h] h
theorem YDrawK.of {l : List Oper} {ts : List D} {h : H} {R : D → H → Prop} {K : List D → H → Prop} (k : DrawK T l ts h K) : YDrawK T l ts h R K := ⟨.inl k⟩
def statX (l : List Oper) (n : Nat) : Bool := headB .any l.toArray n && waitsB l n
/-- In a line, all but the last j; the loads at 'free' may come at any time. -/
theorem YDrawK.turn {l : List Oper} {ts : List D} {h : H} {R : D → H → Prop} {K : List D → H → Prop} (j : Nat) (free : List Nat) (hs : statX l (l.length - j) = true) (hd : dstsB l.toArray (l.length - j) ts.length = true)
    (k : xrun T l (l.length - j) ts free R K (l.length - j) [] [h] h) : YDrawK T l ts h R K := by
  simp only [statX, Bool.and_eq_true] at hs
  exact ⟨.inr ⟨l.length - j, free, ⟨hs.1, hd, hs.2⟩, k⟩⟩
theorem FreeX.nil {P : Program} {l : List Oper} {n m : Nat} {ts vs : List D} {hst : List H} : FreeX P l n m ts vs hst [] := fun i _ h => by simp at h
theorem FreeX.one {P : Program} {l : List Oper} {n m : Nat} {ts vs : List D} {hst : List H} {i : Nat} {o : Oper} {d : D} (ho : l[i]? = some o) (hd : vs[i]? = some d) (hl : hst.length = m + 1) (hall : ∀ h' ∈ hst, sop P (lval l n ts (vs.take i) o) o h' = some d) : FreeX P l n m ts vs hst [i] := fun k _ hk p hp => by
  have hki : k = i := by simpa using hk
  subst hki
  refine ⟨o, d, ho, hd, hall _ ?_⟩
  have : p < hst.length := by omega
  simp only [List.getD, List.getElem?_eq_getElem this, Option.getD_some]
  exact List.getElem_mem _
/-! ### Code -/
def yx (T : TP) (R : D → H → Prop) : Code → List D → H → (AExit → List D → H → Prop) → Prop
  | .skip, ts, h, Q => Q .normal ts h
  | .region _ ops draw, ts, h, Q => if draw = true then (if lineFirst ops.toList = true then LineK T ops.toList ts h (fun ts' h' => Q .normal ts' h') else YDrawK T ops.toList ts h R (fun ts' h' => Q .normal ts' h')) else ylist T ops R ops.toList ts h (fun ts' h' => Q .normal ts' h')
  | .seq a b, ts, h, Q => yx T R a ts h fun ex ts' h' => match ex with
    | .normal => yx T R b ts' h' Q
    | .exit j => Q (.exit j) ts' h'
    | .ret => Q .ret ts' h'
  | .cond c x y, ts, h, Q => match dv ts c with
    | .raw (.bool t) => bcase t (fun _ => yx T R x ts h Q) (fun _ => yx T R y ts h Q)
    | _ => False
  | .block id c, ts, h, Q => yx T R c ts h fun ex ts' h' => match ex with
    | .normal => Q .normal ts' h'
    | .exit j => if j = id then Q .normal ts' h' else Q (.exit j) ts' h'
    | .ret => Q .ret ts' h'
  | .loop c, ts, h, Q => LoopK (dstsOf c) (scrub (dstsOf c) ts) h (fun ts' h' R' => yx T R c ts' h' R') Q
  | .exit id, ts, h, Q => Q (.exit id) ts h
  | .label _, ts, h, Q => Q .normal ts h
  | .ret, ts, h, Q => Q .ret ts h
  | _, _, _, _ => False
theorem yx_sound (hm : (T ()).follows .mixedOrders = true) {R : D → H → Prop} : ∀ (c : Code) {ts : List D} {h : H} {K : AExit → List D → H → Prop}, yx T R c ts h K → ∀ {C : Cx} {w : World} {a : Act} {Q : Exit → Act → World → Prop}, Sim C h w → TA C w ts a →
    (∀ d h' a' C' w' v, R d h' → Fw C w C' w' → Sim C' h' w' → Rd C' w' d v → a'.defers = [] → Q (.panic [{ v, recovered := false }]) a' w') → (∀ ex ts' h' a' C' w', K ex ts' h' → Fw C w C' w' → Sim C' h' w' → TA C' w' ts' a' → Q ex.ex a' w') → c.wp (T ()) Q a w := by
  intro c
  induction c with
  | skip => intro ts h K e C w a Q s ta hp hk; exact wp_skip (hk _ _ _ a C w e (Fw.refl _ _) s ta)
  | region id ops draw =>
    intro ts h K e C w a Q s ta hp hk
    simp only [yx] at e
    cases draw with
    | false =>
      rw [if_neg (by simp)] at e
      exact wp_region_list (ylist_sound e s ta hp fun ts' h' a' C' w' k f' s' t' => hk _ _ _ a' C' w' k f' s' t')
    | true =>
      rw [if_pos rfl] at e
      split at e
      · obtain ⟨n, h4, e⟩ := e.out
        obtain ⟨vs, hst, k1, k2⟩ := wlrun_ok (h0 := h) e (by simp) (by simp) (by simp) (by simp) (fun i hi => absurd hi (Nat.not_lt_zero _))
        have := aline_core hm k1 h4 id s ta fun a1 C1 w1 f1 s1 t1 => wlist_sound k2 s1 t1 fun ts' h' a' C' w' k f' s' t' => hk _ _ _ a' C' w' k (f1.trans f') s' t'
        simpa using this
      · rename_i hnl
        rcases e.out with e | ⟨n, free, h4, e⟩
        · skip
          exact wx_sound hm (.region id ops true) (K := K) (by simp only [wx]; rw [if_pos trivial, if_neg hnl]; exact e) s ta hk
        · have := xrun_ok hm h4 (h0 := h) e (by simp) (by simp) (by simp) (by simp) (fun i hi => absurd hi (Nat.not_lt_zero _)) id s ta hp fun ts' h' a' C' w' k f' s' t' => hk _ _ _ a' C' w' k f' s' t'
          simpa using this
  | seq x y ihx ihy =>
    intro ts h K e C w a Q s ta hp hk
    simp only [yx] at e
    refine wp_seq (ihx e s ta (fun d h' a' C' w' v q f' s' r hd => hp d h' a' C' w' v q f' s' r hd) fun ex ts1 h1 a1 C1 w1 k f1 s1 t1 => ?_)
    cases ex with
    | normal => exact ihy k s1 t1 (fun d h' a' C' w' v q f' s' r hd => hp d h' a' C' w' v q (f1.trans f') s' r hd) fun ex ts' h' a' C' w' k' f' s' t' => hk ex ts' h' a' C' w' k' (f1.trans f') s' t'
    | exit j => exact hk _ _ _ a1 C1 w1 k f1 s1 t1
    | ret => exact hk _ _ _ a1 C1 w1 k f1 s1 t1
  | cond c x y ihx ihy =>
    intro ts h K e C w a Q s ta hp hk
    simp only [yx] at e
    split at e
    · rename_i t hc
      have hcv := ta.reads c
      rw [hc] at hcv
      simp only [Rd] at hcv
      have e := bcase_eq e
      refine wp_cond_split hcv (fun ht => ?_) fun ht => ?_
      · subst ht
        rw [if_pos rfl] at e
        exact ihx e s ta hp hk
      · subst ht
        rw [if_neg (by simp)] at e
        exact ihy e s ta hp hk
    · exact e.elim
  | block id c ih =>
    intro ts h K e C w a Q s ta hp hk
    simp only [yx] at e
    refine wp_block (ih e s ta (fun d h' a' C' w' v q f' s' r hd => hp d h' a' C' w' v q f' s' r hd) fun ex ts1 h1 a1 C1 w1 k f1 s1 t1 => ?_)
    cases ex with
    | normal => exact hk _ _ _ a1 C1 w1 k f1 s1 t1
    | exit j =>
      simp only at k
      by_cases hj : j = id
      · rw [if_pos hj] at k
        simp only [AExit.ex, Exit.inBlock, if_pos hj]
        exact hk _ _ _ a1 C1 w1 k f1 s1 t1
      · rw [if_neg hj] at k
        simp only [AExit.ex, Exit.inBlock, if_neg hj]
        exact hk _ _ _ a1 C1 w1 k f1 s1 t1
    | ret => exact hk _ _ _ a1 C1 w1 k f1 s1 t1
  | loop c ih =>
    intro ts h K e C w a Q s ta hp hk
    simp only [yx] at e
    obtain ⟨m, I, he, hr⟩ := e.out
    obtain ⟨C1, ts1, h1, ⟨hlen, N, hI⟩, f1, s1, t1⟩ := he C w a s (ta.scrub _)
    have hb0 : ∀ id b, C1.bx id = some b → id < m := fun id b hb => Nat.lt_of_lt_of_le (s1.idb id b hb) hlen
    have hl0 : ∀ id u, C1.lg id = some u → id < m := fun id u hu => Nat.lt_of_lt_of_le (s1.idl id u hu) hlen
    have main : ∀ (n N : Nat) (ts : List D) (h : H) (C2 : Cx) (w2 : World) (a2 : Act), N < n → I N ts h → Fw C1 w C2 w2 → Sim C2 h w2 → TA C2 w2 ts a2 → Code.rounds (T ()) c Q n a2 w2 := by
      intro n
      induction n with
      | zero => intro N ts h C2 w2 a2 hN; omega
      | succ n ihn =>
        intro N ts h C2 w2 a2 hN hI f2 s2 t2
        unfold Code.rounds
        refine ih (hr N ts h hI) s2 t2 (fun d h' a' C' w' v q f' s' r hd => hp d h' a' C' w' v q (f1.trans (f2.trans f')) s' r hd) fun ex ts3 h3 a3 C3 w3 k f3 s3 t3 => ?_
        cases ex with
        | normal =>
          obtain ⟨N', hN', hw⟩ := k.out
          obtain ⟨C4, ts4, h4, k1, k2, k3, k4⟩ := hw C1 w C3 w3 a3 hb0 hl0 (f2.trans f3) s3 (t3.scrub _)
          exact ihn N' ts4 h4 C4 w3 a3 (by omega) k1 k2 k3 k4
        | exit j => exact hk _ _ _ a3 C3 w3 k (f1.trans (f2.trans f3)) s3 t3
        | ret => exact hk _ _ _ a3 C3 w3 k (f1.trans (f2.trans f3)) s3 t3
    exact wp_loop_rounds (N + 1) (main (N + 1) N ts1 h1 C1 w a (by omega) hI (Fw.refl _ _) s1 t1)
  | exit id => intro ts h K e C w a Q s ta hp hk; exact wp_exit (hk _ _ _ a C w e (Fw.refl _ _) s ta)
  | label l => intro ts h K e C w a Q s ta hp hk; exact wp_label (hk _ _ _ a C w e (Fw.refl _ _) s ta)
  | ret => intro ts h K e C w a Q s ta hp hk; exact wp_ret (hk _ _ _ a C w e (Fw.refl _ _) s ta)
  | _ => intros; rename_i e _ _ _ _ _ _ _ _; simp [yx] at e
/-! ### A function -/
def yfun (T : TP) (k : FuncId) (ds : List D) (h : H) (Q : Bool → D → H → Prop) : Prop :=
  match (T ()).funcs[k]? with
  | some fn => match fn.body with
    | some c => if (fn.name == "runtime.NumGoroutine") = false then
        yx T (fun d h' => EndK (Q false) d h') c (ds ++ List.replicate (fn.ntmps - ds.length) (.raw undef)) h fun ex ts' h' => match ex with
          | .exit _ => False
          | _ => match resD (T ()) h' ts' fn.results.toList with
            | some l => EndK (Q true) (oneD l) h'
            | none => False
      else False
    | none => False
  | none => False
theorem yfun_ok (hm : (T ()).follows .mixedOrders = true) {k : FuncId} {ds : List D} {h : H} {K : Bool → D → H → Prop} (e : yfun T k ds h K) : CX (T ()) k ds h K := by
  unfold yfun at e
  split at e
  · rename_i fn hf
    split at e
    · rename_i c hb
      split at e
      · rename_i hname
        refine ⟨⟨fn, c, hf, hname, hb⟩, fun C w args s r => ?_⟩
        refine calls_of_wp hf hb (yx_sound hm c e s (a := { tmps := args.toArray ++ Array.replicate (fn.ntmps - args.toArray.size) undef, defers := [] }) ⟨?_, rfl⟩ (fun d h' a' C' w' v q f' s' r' hd => ⟨hd, false, v, C', d, h', rfl, q.out, f', s', r'⟩) fun ex ts' h' a' C' w' k f' s' t' => ?_)
        · have hl := r.len
          simp only [Array.toList_append, Array.toList_replicate, List.size_toArray, ← hl]
          refine r.app ?_
          have := RdL.raws C w (List.replicate (fn.ntmps - ds.length) undef)
          simpa using this
        · have main : (match resD (T ()) h' ts' fn.results.toList with | some l => EndK (K true) (oneD l) h' | none => False) → bodyPost (T ()) fn (fun e w'' => ∃ b v C'' d h', e = endOf b v ∧ K b d h' ∧ Fw C w C'' w'' ∧ Sim C'' h' w'' ∧ Rd C'' w'' d v) .ret a' w' := fun k => by
            split at k
            · rename_i l hl
              obtain ⟨vs, k1, k2⟩ := resD_sound s' t' hl
              exact ⟨t'.defers, _, run_results k1, true, _, C', _, h', rfl, k.out, f', s', oneD_rd k2⟩
            · exact k.elim
          cases ex with
          | normal => exact main k
          | ret => exact main k
          | exit j => exact k.elim
      · exact e.elim
    · exact e.elim
  · exact e.elim
end
end Go.Proofs.Ytpnfbmhnmhahnaa.Pv
