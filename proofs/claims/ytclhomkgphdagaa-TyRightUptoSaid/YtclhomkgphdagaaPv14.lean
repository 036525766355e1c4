/- The evaluator over data (see NOTES, 'Pv'): part Pv14. -/
import Derived.Test.YtclhomkgphdagaaPv13
namespace Go.Proofs.Ytclhomkgphdagaa.Pv
open Go Go.RowKit
theorem Ev.trans {C C1 C2 : Cx} {w w1 w2 : World} (h : Ev C w C1 w1) (k : Ev C1 w1 C2 w2) : Ev C w C2 w2 := by
  refine ⟨k.os.trans h.os, k.tape.trans h.tape, k.output.trans h.output, Nat.le_trans h.size k.size, fun b o hs => k.sub b o (h.sub b o hs), fun b o hs => (k.cell b o (h.sub b o hs)).trans (h.cell b o hs), fun id b hb => k.bx id b (h.bx id b hb), fun id u hu => ?_⟩
  obtain ⟨u1, h1, h2⟩ := h.lg id u hu
  obtain ⟨u2, h3, h4⟩ := k.lg id u1 h1
  refine ⟨u2, h3, ?_⟩
  rcases h2 with rfl | h2
  · exact h4
  · rcases h4 with rfl | h4
    · exact .inr h2
    · exact .inr (by omega)
section
variable {P : Program}
structure Fin (C : Cx) (W w : World) (l : List Oper) (V : Nat → Value) (Z : Nat → Prop) (F : Nat → Nat → Prop) (a0 : Act) (dead : Nat → Bool) (i : Nat) (r : List D × H) (Ci : Cx) : Prop where
  ev : Ev (CF C Z) w Ci w
  sim : Sim Ci r.2 w
  ta : TA Ci w r.1 (putV l.toArray V a0 i)
  S : ∀ b o, Ci.S b o → (C.S b o ∨ Z b) ∨ ∃ j, j < i ∧ dead j = false ∧ F j b
  own : ∀ id b, Ci.blk id b → C.blk id b ∨ ∃ j, j < i ∧ dead j = false ∧ F j b
theorem hfin_sound {l : List Oper} {n : Nat} {ts : List D} {h : H} {hs : List HD} {C : Cx} {W w : World} {a0 : Act} {V : Nat → Value} {Z : Nat → Prop} {F : Nat → Nat → Prop} {dead : Nat → Bool} (s0 : Sim C h W) (ta0 : TA C W ts a0) (hb : Below W.heap.size W w)
    (hsb : storeB l n = true) (hd0 : dstsB l.toArray n ts.length = true) (hn : n ≤ l.length) (hzb : ∀ b, Z b → W.heap.size ≤ b ∧ b < w.heap.size)
    (hpz : ∀ i, i < n → ∀ d, hs.getD i (.d .any) = .d d → Rd (CF C Z) w d (V i))
    (hre : ∀ i, i < n → dead i = false → (hs.getD i (.d .any)).isD = false → (∀ b, F i b → W.heap.size ≤ b ∧ b < w.heap.size ∧ ¬ Z b) ∧ HRd C w Z (F i) (hs.getD i (.d .any)) (V (vIx l n i (hs.getD i (.d .any)))))
    (hap : ∀ i j b, i < n → j < n → i ≠ j → dead i = false → dead j = false → F i b → F j b → False) :
    ∀ i, i ≤ n → ∃ Ci, Fin C W w l V Z F a0 dead i (hfin l n hs dead i ts h) Ci
  | 0, _ => by
    obtain ⟨s1, f1⟩ := s0.below hb
    exact ⟨CF C Z, ⟨rfl, rfl, rfl, Nat.le_refl _, fun _ _ h => h, fun _ _ _ => rfl, fun _ _ h => h, fun _ u h => ⟨u, h, .inl rfl⟩⟩, s1.ext_S fun b hz => ⟨(hzb b hz).2, fun id hb' => by have := s0.lt id b hb'; have := (hzb b hz).1; omega⟩, (ta0.mono f1.toEv).mono CF.ev0, fun _ _ h => .inl h, fun _ _ h => .inl h⟩
  | i + 1, hi => by
    obtain ⟨Ci, I⟩ := hfin_sound s0 ta0 hb hsb hd0 hn hzb hpz hre hap i (by omega)
    have hin : i < n := by omega
    have hput : ∀ (C2 : Cx) (d : D), TA C2 w (hfin l n hs dead i ts h).1 (putV l.toArray V a0 i) → Rd C2 w d (V i) → TA C2 w (putD (hfin l n hs dead i ts h).1 (dstAt l i) d) (putV l.toArray V a0 (i + 1)) := fun C2 d t r => by
      have := t.put r (dstAt l i)
      rw [← getElem?_bind_toArray] at this ⊢
      exact this
    have hputP : ∀ (C2 : Cx) (d : D), TA C2 w (hfin l n hs dead i ts h).1 (putV l.toArray V a0 i) → Rd C2 w d (V (ptrIx l n i)) → TA C2 w (putD (hfin l n hs dead i ts h).1 (dstAt l (ptrIx l n i)) d) (putV l.toArray V a0 (i + 1)) := fun C2 d t r => by
      by_cases hpi : ptrIx l n i = i
      · rw [hpi] at r ⊢
        exact hput C2 d t r
      · have hil : i < l.length := by omega
        have hoik := List.all_eq_true.1 hsb i (List.mem_range.2 hin)
        rw [List.getElem?_eq_getElem hil] at hoik
        have hst : isStoreOp l[i].op = true := by
          unfold ptrIx at hpi
          rw [List.getElem?_eq_getElem hil] at hpi
          simp only at hpi
          split at hpi
          · rename_i hop; rw [hop]; rfl
          · exact absurd rfl hpi
        simp only [hst, Bool.not_true, Bool.false_or, Bool.and_eq_true, decide_eq_true_eq, Option.isNone_iff_eq_none] at hoik
        have e0 : (l.toArray[i]?).bind (·.dst) = none := by rw [getElem?_bind_toArray]; simp [dstAt, List.getElem?_eq_getElem hil, hoik.1]
        have e1 : putV l.toArray V a0 (i + 1) = putV l.toArray V a0 i := by
          show (putV l.toArray V a0 i).put ((l.toArray[i]?).bind (·.dst)) (V i) = _
          rw [e0]
          rfl
        rw [e1]
        cases hdk : dstAt l (ptrIx l n i) with
        | none => exact t
        | some tt =>
          have hsz : ts.length ≤ a0.tmps.size := by have := ta0.rd.len; simp at this; omega
          have hat := putV_at (ops := l.toArray) V a0 hd0 hsz ((getElem?_bind_toArray l (ptrIx l n i)).trans hdk) i (by omega) hoik.2
          refine ⟨?_, t.defers⟩
          have := RdL.set r t.rd tt
          have e2 : (putV l.toArray V a0 i).tmps.toList.set tt (V (ptrIx l n i)) = (putV l.toArray V a0 i).tmps.toList := by
            rw [← Array.getElem?_toList] at hat
            obtain ⟨hlt, he⟩ := List.getElem?_eq_some_iff.1 hat
            rw [← he]
            exact List.set_getElem_self hlt
          rwa [e2] at this
    have stay : ∀ d : D, Rd Ci w d (V i) → Fin C W w l V Z F a0 dead (i + 1) (putD (hfin l n hs dead i ts h).1 (dstAt l i) d, (hfin l n hs dead i ts h).2) Ci := fun d r =>
      ⟨I.ev, I.sim, hput Ci d I.ta r, fun b o hs => (I.S b o hs).imp id fun ⟨j, h1, h2⟩ => ⟨j, by omega, h2⟩, fun id b hb => (I.own id b hb).imp (fun h => h) fun ⟨j, h1, h2⟩ => ⟨j, by omega, h2⟩⟩
    have live : dead i = false → (hs.getD i (.d .any)).isD = false → (∀ b, F i b → b < w.heap.size ∧ (∀ id, ¬ Ci.blk id b) ∧ ∀ o, ¬ Ci.S b o) := fun hd hnd b hf => by
      have hbb := (hre i hin hd hnd).1 b hf
      refine ⟨hbb.2.1, fun id hk => ?_, fun o hk => ?_⟩
      · rcases I.own id b hk with h1 | ⟨j, h1, h2, h3⟩
        · have := s0.lt id b h1; omega
        · exact hap j i b (by omega) hin (by omega) h2 hd h3 hf
      · rcases I.S b o hk with (h1 | h1) | ⟨j, h1, h2, h3⟩
        · have := s0.S b o h1; omega
        · exact hbb.2.2 h1
        · exact hap j i b (by omega) hin (by omega) h2 hd h3 hf
    simp only [hfin]
    split
    · rename_i d hv
      exact ⟨Ci, stay _ (Rd.mono I.ev d _ (hpz i hin d hv))⟩
    · rename_i e sz ds hv
      cases hd : dead i with
      | true => exact ⟨Ci, by simpa using stay .any trivial⟩
      | false =>
        have hnd : (hs.getD i (.d .any)).isD = false := by rw [hv]; rfl
        have hl := live hd hnd
        have hr := (hre i hin hd hnd).2
        rw [hv] at hr
        have hr : HRd C w Z (F i) (.fs e sz ds) (V i) := hr
        obtain ⟨xs, h2, h3, h4⟩ := hr
        obtain ⟨C', j1, j2, j3, j4, j5, j6⟩ := I.sim.ext_log h3 (fun b hb => ⟨(hl b (h2 b hb)).2.2, (hl b (h2 b hb)).2.1⟩)
        simp only [Bool.false_eq_true, if_false]
        refine ⟨C', I.ev.trans j1, j2, hput _ _ (I.ta.mono j1) ?_, fun b o hs => ?_, fun id b hk => ?_⟩
        · exact own_RdE h3 h4 (I.ev.trans j1) j4 _ fun id e => by
            cases e
            exact ⟨_, j3, by rw [ownsRow_len h3]; exact Nat.le_refl _, fun _ => rfl⟩
        · rcases j5 b o hs with hs | hs
          · exact (I.S b o hs).imp id fun ⟨j, h1, h2⟩ => ⟨j, by omega, h2⟩
          · exact .inr ⟨i, Nat.lt_succ_self _, hd, h2 b hs⟩
        · rcases j6 id b hk with hk | hk
          · exact (I.own id b hk).imp (fun h => h) fun ⟨j, h1, h2⟩ => ⟨j, by omega, h2⟩
          · exact .inr ⟨i, Nat.lt_succ_self _, hd, h2 b hk⟩
    · rename_i t ds hv
      cases hd : dead i with
      | true => exact ⟨Ci, by simpa using stay .any trivial⟩
      | false =>
        have hnd : (hs.getD i (.d .any)).isD = false := by rw [hv]; rfl
        have hl := live hd hnd
        have hr := (hre i hin hd hnd).2
        rw [hv] at hr
        have hr : HRd C w Z (F i) (.fb t ds) (V (ptrIx l n i)) := hr
        obtain ⟨b0, vs, h2, h4, h5, h6, h7⟩ := hr
        obtain ⟨C', j1, j2, j3, j4, j5⟩ := I.sim.ext_box h5 (h6.mono I.ev) h7 (hl b0 h2).2.2 (hl b0 h2).2.1
        simp only [Bool.false_eq_true, if_false]
        refine ⟨C', I.ev.trans j1, j2, hputP _ _ (I.ta.mono j1) ⟨b0, j3, h4⟩, fun b o hs => ?_, fun id b hk => ?_⟩
        · exact (I.S b o (j4 b o hs)).imp id fun ⟨j, h1, h2⟩ => ⟨j, by omega, h2⟩
        · rcases j5 id b hk with hk | rfl
          · exact (I.own id b hk).imp (fun h => h) fun ⟨j, h1, h2⟩ => ⟨j, by omega, h2⟩
          · exact .inr ⟨i, Nat.lt_succ_self _, hd, h2⟩
theorem mask_ptr {l : List Oper} {n : Nat} (hw : waitsB l n = true) (i : Nat) (hi : i < n) (hd : HD) (V : Nat → Value) : mask l.toArray i V (vIx l n i hd) = V (vIx l n i hd) := by
  unfold vIx
  split
  · have hwi := List.all_eq_true.1 hw i (List.mem_range.2 hi)
    unfold ptrIx
    cases hli : l[i]? with
    | none => exact mask_self _ _ _
    | some o =>
      rw [hli] at hwi
      simp only [Bool.and_eq_true] at hwi
      simp only
      split
      · rename_i ty t y hop
        split
        · rename_i k hk
          refine mask_waits V ((List.all_eq_true.1 hwi.1) k ?_)
          unfold depsOf
          rw [hop]
          simp [Op.operands, hk]
        · exact mask_self _ _ _
      · exact mask_self _ _ _
  · exact mask_self _ _ _
theorem findHead_some {l : List Oper} : ∀ {f m n : Nat}, findHead l f m = some n → headB .any l.toArray n = true
  | f + 1, m, n, e => by
    simp only [findHead] at e
    split at e
    · rename_i h
      cases e
      exact h
    · exact findHead_some e
theorem adraw_sound {call : FuncId → List D → H → Option (D × H)} {penv : FuncId → List D → Option D} (hm : P.follows .mixedOrders = true) (hcall : CallOk P call) (hp : PureOk P penv) :
    ∀ l ts h ts' h', adraw P call penv l ts h = some (ts', h') → ∀ (id : Nat) (C : Cx) (w : World) (a : Act) (Q : Exit → Act → World → Prop), Sim C h w → TA C w ts a →
    (∀ a' C' w', Fw C w C' w' → Sim C' h' w' → TA C' w' ts' a' → Q .normal a' w') → (Code.region id l.toArray true).wp P Q a w := by
  intro l ts h ts' h' e id C w a Q s ta hk
  unfold adraw at e
  split at e
  · rename_i n hn
    split at e
    · rename_i hs hr
      split at e
      · rename_i hst
        simp only [staticB, Bool.and_eq_true] at hst
        obtain ⟨⟨⟨hB, hd⟩, hw, hsb⟩, hc⟩ := hst
        obtain ⟨s1, f1⟩ := s.drew
        have ta1 := ta.mono f1.toEv
        have hC1 : ∀ b o, C.S b o → b < w.drew.heap.size := s1.S
        have hsz : ts.length ≤ a.tmps.size := by have := ta.rd.len; simp at this; omega
        have hnsz : n ≤ l.toArray.size := by
          simp only [headB, Bool.and_eq_true, decide_eq_true_eq] at hB
          exact hB.1.1.2
        refine wp_region_sep (m := ts.length) (n := n) (consOf l n hs) (muOf l) (PzD C hs) (ReD C l n hs) hm hB hd hsz hc ?_ ?_ ?_ ?_
        · intro i U x x' Z Z' _ r hZZ hZx hBx hk d hdd
          have := HRd.keep (hd := .d d) (F := fun _ => False) (r d hdd) hC1 hBx hZx (.inl rfl) hZZ ⟨hk.os, hk.tape, hk.output, hk.size, fun b hb hbz => hk.block b hb (hbz.imp (fun h => h) fun h => h.elim (fun h => h) fun h => h.2.elim)⟩
          exact this
        · intro i U x x' Z Z' F _ r hZZ hZx hFx hBx hk hnd
          exact HRd.keep (r hnd) hC1 hBx hZx (.inr hFx) hZZ ⟨hk.os, hk.tape, hk.output, hk.size, fun b hb hbz => hk.block b hb (hbz.imp (fun h => h) fun h => h.imp (fun h => h) (·.2))⟩
        · intro i o hi ho
          refine duty_sound hp s1 ta1 hr hw hsb hi ho fun k k' t hkn hkn' e1 e2 => ?_
          by_cases hkk : k = k'
          · exact hkk
          · exact absurd ((getElem?_bind_toArray l k').trans e2) (dstsB_ne hd hkn hkn' hkk ((getElem?_bind_toArray l k).trans e1))
        · intro V Z F x hbx hzb hpz hre hap
          have hdead : ∀ i, deadB l n hs i = false → ∀ c, c < n → i ∉ consOf l n hs c := fun i hd c hc hm => by
            have : deadB l n hs i = true := List.any_eq_true.2 ⟨c, List.mem_range.2 hc, by simpa using hm⟩
            rw [this] at hd
            cases hd
          obtain ⟨Cn, I⟩ := hfin_sound (l := l) (n := n) (hs := hs) (V := V) (Z := Z) (F := F) (dead := deadB l n hs) s1 ta1 hbx hsb hd (by simpa using hnsz) hzb (fun i hi d hv => by
              have := hpz i hi d hv
              rwa [mask_self] at this) (fun i hi hd hnd => by
              obtain ⟨h1, h2⟩ := hre i hi (hdead i hd)
              have h3 := h1 hnd
              rw [mask_ptr hw i hi] at h3
              exact ⟨h2, h3⟩) (fun i j b hi hj hne h1 h2 => hap i j b hi hj hne (hdead i h1) (hdead j h2)) n (Nat.le_refl _)
          have evW : Ev C w.drew Cn x := by
            have e0 := (s1.below hbx).2.toEv
            exact e0.trans (CF.ev0.trans I.ev)
          have fw : Fw C w Cn x := by
            have h0 : w.drew.heap.size = w.heap.size := rfl
            have big : ∀ j b, j < n ∧ deadB l n hs j = false ∧ F j b → w.heap.size ≤ b := fun j b ⟨h1, h2, h3⟩ => ((hre j h1 (hdead j h2)).2 b h3).1
            refine f1.trans ⟨evW, fun b hb _ => hbx.block b hb, fun id' b hk hb => ?_, fun b o hs' hb => ?_⟩
            · rcases I.own id' b hk with h1 | ⟨j, h1⟩
              · exact ⟨id', h1⟩
              · have := big j b h1
                omega
            · rcases I.S b o hs' with (h1 | h1) | ⟨j, h1⟩
              · exact .inl h1
              · have := (hzb b h1).1
                omega
              · have := big j b h1
                omega
          exact alist_sound hcall e I.sim I.ta fun a' C' w' f' s' t' => hk a' C' w' (fw.trans f') s' t'
      · cases e
    · cases e
  · cases e
end
end Go.Proofs.Ytclhomkgphdagaa.Pv
