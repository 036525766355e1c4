/- The evaluator over data (see NOTES, 'Pv'): drawn regions; fuel; bases. -/
import Derived.Test.YtbfmaicoefefaaaPvK
import Derived.StillTail
import Derived.Below
import Derived.WalkKit
set_option linter.unusedSimpArgs false
set_option linter.unusedVariables false
/-! ## Part 10 -/
namespace Go.Proofs.Ytbfmaicoefefaaa.Pv
open Go Go.RowKit
section
variable {P : Program} {ops : Array Oper} {md : Region.Mode}
/-- What binds an operation stands ahead of it. -/
def aheadB (md : Region.Mode) (ops : Array Oper) : Bool :=
  (List.range ops.size).all fun i => match ops[i]? with
    | some o => o.after.all fun e => !Region.binds md e || decide (e.on < i)
    | none => true
theorem aheadB_spec (h : aheadB md ops = true) {i : Nat} {o : Oper} (hi : ops[i]? = some o) : ∀ e ∈ o.after, Region.binds md e = true → e.on < i := by
  intro e he hb
  have h1 := List.all_eq_true.1 h i (List.mem_range.2 (Array.getElem?_eq_some_iff.1 hi).1)
  rw [hi] at h1
  have h2 := Array.all_eq_true'.1 h1 e he
  rw [hb] at h2
  simpa using h2
def doneA (n m : Nat) : Array Bool := (List.replicate n true ++ List.replicate m false).toArray
def headB (md : Region.Mode) (ops : Array Oper) (n : Nat) : Bool :=
  aheadB md ops && decide (n ≤ ops.size) && (decide (n = ops.size) || (decide (n < ops.size) && Region.sinkB md ops n && Region.chainB md ops n)) && Region.seqB md ops (ops.size - n) n (doneA n (ops.size - n))
theorem filter_drop {p q : Nat → Bool} {i : Nat} (hp : p i = true) (hq : q i = false) (he : ∀ j, j ≠ i → q j = p j) : ∀ l : List Nat, l.Nodup → i ∈ l → (l.filter q).length + 1 = (l.filter p).length
  | [], _, h => by simp at h
  | x :: l, hn, h => by
    obtain ⟨hx, hl⟩ := List.nodup_cons.1 hn
    by_cases hxi : x = i
    · subst hxi
      rw [List.filter_cons_of_pos hp, List.filter_cons_of_neg (by simp [hq])]
      have : l.filter q = l.filter p := List.filter_congr fun j hj => he j fun e => hx (e ▸ hj)
      rw [this, List.length_cons]
    · have hil : i ∈ l := (List.mem_cons.1 h).resolve_left (fun e => hxi e.symm)
      have ih := filter_drop hp hq he l hl hil
      have e := he x hxi
      cases hpx : p x with
      | true =>
        rw [List.filter_cons_of_pos hpx, List.filter_cons_of_pos (by rw [e, hpx]), List.length_cons, List.length_cons]
        omega
      | false =>
        rw [List.filter_cons_of_neg (by rw [e, hpx]; simp), List.filter_cons_of_neg (by rw [hpx]; simp)]
        exact ih
def leftH (n : Nat) (listed : Array Bool) : Nat := ((List.range n).filter fun i => !listed.getD i true).length
theorem leftH_set {n i : Nat} {listed : Array Bool} (hi : i < n) (hs : i < listed.size) (hun : listed.getD i true = false) : leftH n (listed.setIfInBounds i true) + 1 = leftH n listed := by
  refine filter_drop (i := i) (by simp [hun]) ?_ (fun j hj => ?_) _ List.nodup_range (List.mem_range.2 hi)
  · simp [hs]
  · rw [getD_set_ne true (fun e => hj e.symm)]
theorem done_of {n : Nat} {listed : Array Bool} (inv : HeadInv md ops n listed) (hn : n ≤ ops.size) (h0 : leftH n listed = 0) : listed = doneA n (ops.size - n) := by
  have hall : ∀ i, i < n → listed.getD i true = true := fun i hi => by
    cases h : listed.getD i true with
    | true => rfl
    | false =>
      have : i ∈ (List.range n).filter fun i => !listed.getD i true := List.mem_filter.2 ⟨List.mem_range.2 hi, by simp [h]⟩
      rw [List.length_eq_zero_iff.1 h0] at this
      cases this
  apply Array.ext_getElem?
  intro i
  have e : (doneA n (ops.size - n))[i]? = (List.replicate n true ++ List.replicate (ops.size - n) false)[i]? := by
    unfold doneA
    exact List.getElem?_toArray
  rw [e]
  by_cases hi : i < n
  · have h1 := hall i hi
    have hs : i < listed.size := by rw [inv.size]; omega
    rw [List.getElem?_append_left (by simpa using hi), List.getElem?_replicate_of_lt hi]
    simp [hs] at h1 ⊢
    exact h1
  · by_cases hi2 : i < ops.size
    · have h1 := inv.tail i (by omega) hi2
      have hs : i < listed.size := by rw [inv.size]; omega
      rw [List.getElem?_append_right (by simp; omega), List.length_replicate, List.getElem?_replicate_of_lt (by omega)]
      simp [hs] at h1 ⊢
      exact h1
    · rw [Array.getElem?_eq_none (by rw [inv.size]; omega), List.getElem?_eq_none (by simp; omega)]
theorem least_false {n : Nat} {p : Nat → Bool} : (∃ i, i < n ∧ p i = false) → ∃ i, i < n ∧ p i = false ∧ ∀ j, j < i → p j = true := by
  rintro ⟨i, hi, hp⟩
  induction i using Nat.strongRecOn with
  | _ i ih =>
    by_cases h : ∃ j, j < i ∧ p j = false
    · obtain ⟨j, hj, hpj⟩ := h
      exact ih j hj (by omega) hpj
    · refine ⟨i, hi, hp, fun j hj => ?_⟩
      cases hpj : p j with
      | true => rfl
      | false => exact absurd ⟨j, hj, hpj⟩ h
/-- All behind the head waits for all of the head. -/
structure HeadW (md : Region.Mode) (ops : Array Oper) (n : Nat) : Prop where
  ahead : aheadB md ops = true
  le : n ≤ ops.size
  wait : ∀ listed i, HeadInv md ops n listed → i < n → listed.getD i true = false → ∀ t, n ≤ t → t ∉ Region.ready md ops listed
theorem headW_of {n : Nat} (hB : headB md ops n = true) : HeadW md ops n := by
  simp only [headB, Bool.and_eq_true, Bool.or_eq_true, decide_eq_true_eq] at hB
  obtain ⟨⟨⟨hah, hn⟩, hsink⟩, _⟩ := hB
  refine ⟨hah, hn, fun listed i inv hi hun j h hj => ?_⟩
  obtain ⟨_, o, ho, _⟩ := mem_ready.1 hj
  have hjs := (Array.getElem?_eq_some_iff.1 ho).1
  rcases hsink with h' | ⟨⟨h1, h2⟩, h3⟩
  · omega
  · exact absurd hj (tail_waits h2 h3 h1 inv _ i rfl hi hun j h)
theorem tail_seq {n : Nat} {Q : Exit → Act → World → Prop} (hB : headB md ops n = true) {a : Act} {w : World} (h : wpList P ops Q (ops.toList.drop n) a w) : wpAny P md ops Q (ops.size - n) (doneA n (ops.size - n)) a w := by
  simp only [headB, Bool.and_eq_true, Bool.or_eq_true, decide_eq_true_eq] at hB
  obtain ⟨⟨⟨hah, hn⟩, hsink⟩, hseq⟩ := hB
  have := wpAny_of_seq (md := md) (Q' := Q) (ops.toList.drop n) n (doneA n (ops.size - n)) a w (fun j => by rw [List.getElem?_drop, Array.getElem?_toList]) (by simpa using hseq) h
  simpa using this
theorem wpAny_invW {n : Nat} {Q : Exit → Act → World → Prop} {Inv : Array Bool → Act → World → Prop} (hB : HeadW md ops n)
    (hs : ∀ listed a w i, HeadInv md ops n listed → i ∈ Region.ready md ops listed → i < n → Inv listed a w → wpOp P ops Q i (Inv (listed.setIfInBounds i true)) a w)
    (hE : ∀ a w, Inv (doneA n (ops.size - n)) a w → wpAny P md ops Q (ops.size - n) (doneA n (ops.size - n)) a w) :
    ∀ (f : Nat) (listed : Array Bool) (a : Act) (w : World), HeadInv md ops n listed → leftH n listed = f → Inv listed a w → wpAny P md ops Q (f + (ops.size - n)) listed a w := by
  obtain ⟨hah, hn, hwt⟩ := hB
  intro f
  induction f with
  | zero =>
    intro listed a w inv hl hI
    have e := done_of inv hn hl
    subst e
    rw [Nat.zero_add]
    exact hE a w hI
  | succ f ih =>
    intro listed a w inv hl hI
    have hex : ∃ i, i < n ∧ listed.getD i true = false := by
      cases hf : (List.range n).filter fun i => !listed.getD i true with
      | nil => rw [leftH, hf] at hl; cases hl
      | cons x r =>
        have : x ∈ (List.range n).filter fun i => !listed.getD i true := by rw [hf]; exact List.mem_cons_self ..
        obtain ⟨h1, h2⟩ := List.mem_filter.1 this
        exact ⟨x, List.mem_range.1 h1, by simpa using h2⟩
    obtain ⟨i, hi, hun, hlt⟩ := least_false hex
    have hio : i < ops.size := by omega
    have hrd : i ∈ Region.ready md ops listed := mem_ready.2 ⟨hun, ops[i], Array.getElem?_eq_getElem hio, fun e he hb => by
      have h1 := aheadB_spec hah (Array.getElem?_eq_getElem hio) e he hb
      have h2 := hlt e.on h1
      have hs' : e.on < listed.size := by rw [inv.size]; omega
      simp [hs'] at h2 ⊢
      exact h2⟩
    rw [show f + 1 + (ops.size - n) = (f + (ops.size - n)) + 1 by omega]
    refine ⟨fun h0 => (by rw [h0] at hrd; cases hrd), fun j hj => ?_⟩
    have hjn : j < n := by
      rcases Nat.lt_or_ge j n with h | h
      · exact h
      · exact absurd hj (hwt listed i inv hi hun j h)
    obtain ⟨hjun, _⟩ := mem_ready.1 hj
    exact wpOp_mono (fun a' w' h' => ih _ a' w' (inv.set hj hjn) (by have := leftH_set hjn (by rw [inv.size]; omega) hjun; omega) h') (hs listed a w j inv hj hjn hI)
theorem wpAny_inv {n : Nat} {Q : Exit → Act → World → Prop} {Inv : Array Bool → Act → World → Prop} (hB : headB md ops n = true)
    (hs : ∀ listed a w i, HeadInv md ops n listed → i ∈ Region.ready md ops listed → i < n → Inv listed a w → wpOp P ops Q i (Inv (listed.setIfInBounds i true)) a w)
    (hE : ∀ a w, Inv (doneA n (ops.size - n)) a w → wpList P ops Q (ops.toList.drop n) a w) :
    ∀ (f : Nat) (listed : Array Bool) (a : Act) (w : World), HeadInv md ops n listed → leftH n listed = f → Inv listed a w → wpAny P md ops Q (f + (ops.size - n)) listed a w :=
  wpAny_invW (headW_of hB) hs fun a w h => tail_seq hB (hE a w h)

/-! ### Specifications that stay true as the world grows -/
def dstsB (ops : Array Oper) (n m : Nat) : Bool :=
  (List.range n).all fun i => match (ops[i]?).bind (·.dst) with
    | some t => decide (t < m) && (List.range n).all fun j => decide (i = j) || (ops[j]?).bind (·.dst) != some t
    | none => true
theorem dstsB_lt {n m i t : Nat} (h : dstsB ops n m = true) (hi : i < n) (ht : (ops[i]?).bind (·.dst) = some t) : t < m := by
  have h1 := List.all_eq_true.1 h i (List.mem_range.2 hi)
  rw [ht] at h1
  simp only [Bool.and_eq_true, decide_eq_true_eq] at h1
  exact h1.1
theorem dstsB_ne {n m i j t : Nat} (h : dstsB ops n m = true) (hi : i < n) (hj : j < n) (hij : i ≠ j) (ht : (ops[i]?).bind (·.dst) = some t) : (ops[j]?).bind (·.dst) ≠ some t := by
  have h1 := List.all_eq_true.1 h i (List.mem_range.2 hi)
  rw [ht] at h1
  simp only [Bool.and_eq_true, decide_eq_true_eq] at h1
  have h2 := List.all_eq_true.1 h1.2 j (List.mem_range.2 hj)
  simp only [Bool.or_eq_true, decide_eq_true_eq] at h2
  rcases h2 with h2 | h2
  · exact absurd h2 hij
  · simpa using h2
/-- The frame with the head's values put in, in the order of the text. -/
def putV (ops : Array Oper) (V : Nat → Value) (a0 : Act) : Nat → Act
  | 0 => a0
  | n + 1 => (putV ops V a0 n).put ((ops[n]?).bind (·.dst)) (V n)
theorem put_size (a : Act) (d : Option Tmp) (v : Value) : (a.put d v).tmps.size = a.tmps.size := by
  cases d <;> simp [Act.put]
theorem put_defers (a : Act) (d : Option Tmp) (v : Value) : (a.put d v).defers = a.defers := by
  cases d <;> rfl
theorem put_other (a : Act) {d : Option Tmp} (v : Value) {t : Nat} (h : d ≠ some t) : (a.put d v).tmps[t]? = a.tmps[t]? := by
  cases d with
  | none => rfl
  | some k =>
    have hne : k ≠ t := fun e => h (by rw [e])
    simp [Act.put, Array.getElem?_setIfInBounds_ne hne]
theorem put_same (a : Act) (v : Value) {t : Nat} (h : t < a.tmps.size) : (a.put (some t) v).tmps[t]? = some v := by
  simp [Act.put, h]
theorem putV_size (V : Nat → Value) (a0 : Act) : ∀ n, (putV ops V a0 n).tmps.size = a0.tmps.size ∧ (putV ops V a0 n).defers = a0.defers
  | 0 => ⟨rfl, rfl⟩
  | n + 1 => by
    obtain ⟨h1, h2⟩ := putV_size V a0 n
    exact ⟨(put_size _ _ _).trans h1, (put_defers _ _ _).trans h2⟩
theorem putV_other (V : Nat → Value) (a0 : Act) {t : Nat} : ∀ n, (∀ i, i < n → (ops[i]?).bind (·.dst) ≠ some t) → (putV ops V a0 n).tmps[t]? = a0.tmps[t]?
  | 0, _ => rfl
  | n + 1, h => (put_other _ _ (h n (Nat.lt_succ_self n))).trans (putV_other V a0 n fun i hi => h i (Nat.lt_succ_of_lt hi))
theorem putV_at {m : Nat} (V : Nat → Value) (a0 : Act) {N : Nat} (hd : dstsB ops N m = true) (hm : m ≤ a0.tmps.size) {i t : Nat} (ht : (ops[i]?).bind (·.dst) = some t) : ∀ n, n ≤ N → i < n → (putV ops V a0 n).tmps[t]? = some (V i)
  | 0, _, h => absurd h (Nat.not_lt_zero _)
  | n + 1, hn, h => by
    by_cases e : i = n
    · subst e
      show ((putV ops V a0 i).put ((ops[i]?).bind (·.dst)) (V i)).tmps[t]? = some (V i)
      rw [ht]
      exact put_same _ _ (by rw [(putV_size V a0 i).1]; exact Nat.lt_of_lt_of_le (dstsB_lt hd (by omega) ht) hm)
    · exact (put_other _ _ (dstsB_ne hd (by omega) (by omega) e ht)).trans (putV_at V a0 hd hm ht n (by omega) (by omega))
structure Fr (ops : Array Oper) (n : Nat) (a0 : Act) (V : Nat → Value) (listed : Array Bool) (a : Act) : Prop where
  size : a.tmps.size = a0.tmps.size
  defers : a.defers = a0.defers
  other : ∀ t, (∀ i, i < n → (ops[i]?).bind (·.dst) ≠ some t) → a.tmps[t]? = a0.tmps[t]?
  at_ : ∀ i t, i < n → listed.getD i false = true → (ops[i]?).bind (·.dst) = some t → a.tmps[t]? = some (V i)
theorem Fr.put {n m i : Nat} {a0 a : Act} {V : Nat → Value} {listed : Array Bool} (h : Fr ops n a0 V listed a) (hd : dstsB ops n m = true) (hm : m ≤ a0.tmps.size) (hi : i < n) (hun : listed.getD i true = false) (v : Value) :
    Fr ops n a0 (fun k => if k = i then v else V k) (listed.setIfInBounds i true) (a.put ((ops[i]?).bind (·.dst)) v) := by
  refine ⟨(put_size _ _ _).trans h.size, (put_defers _ _ _).trans h.defers, fun t ht => (put_other _ _ (ht i hi)).trans (h.other t ht), fun k t hk hl ht => ?_⟩
  by_cases e : k = i
  · subst e
    rw [if_pos rfl, ht]
    exact put_same _ _ (by rw [h.size]; exact Nat.lt_of_lt_of_le (dstsB_lt hd hi ht) hm)
  · rw [if_neg e]
    rw [getD_set_ne false (fun e' => e e'.symm)] at hl
    exact (put_other _ _ (dstsB_ne hd hk hi e ht)).trans (h.at_ k t hk hl ht)
theorem Fr.done {n m : Nat} {a0 a : Act} {V : Nat → Value} {listed : Array Bool} (h : Fr ops n a0 V listed a) (hd : dstsB ops n m = true) (hm : m ≤ a0.tmps.size) (hl : ∀ i, i < n → listed.getD i false = true) : a = putV ops V a0 n := by
  obtain ⟨s1, s2⟩ := putV_size (ops := ops) V a0 n
  have e : a.tmps = (putV ops V a0 n).tmps := by
    apply Array.ext_getElem?
    intro t
    by_cases ht : ∃ i, i < n ∧ (ops[i]?).bind (·.dst) = some t
    · obtain ⟨i, hi, ht⟩ := ht
      rw [h.at_ i t hi (hl i hi) ht, putV_at V a0 hd hm ht n (Nat.le_refl _) hi]
    · have ht' : ∀ i, i < n → (ops[i]?).bind (·.dst) ≠ some t := fun i hi e => ht ⟨i, hi, e⟩
      rw [h.other t ht', putV_other V a0 n ht']
  obtain ⟨t1, d1⟩ := a
  simp only at e
  have hd' := h.defers
  rw [← s2] at hd'
  generalize putV ops V a0 n = b at e hd'
  obtain ⟨t2, d2⟩ := b
  simp only at e hd'
  rw [e, hd']
def waits (ops : Array Oper) (j i : Nat) : Bool := Region.waitsFor .any ops j i
/-- One operation's duty: in a world that has grown, with the values of those that it waits for, it yields what it is to, in a world that has grown. -/
def Duty (P : Program) (ops : Array Oper) (n : Nat) (Sp : Nat → Value → World → Prop) (a0 : Act) (w1 : World) (i : Nat) (o : Oper) : Prop :=
  ∀ (a : Act) (w : World) (Q : Exit → Act → World → Prop) (K : Act → World → Prop), Below w1.heap.size w1 w →
    (∀ t, (∀ k, k < n → (ops[k]?).bind (·.dst) ≠ some t) → a.tmps[t]? = a0.tmps[t]?) →
    (∀ k t, k < n → waits ops i k = true → (ops[k]?).bind (·.dst) = some t → ∃ v, a.tmps[t]? = some v ∧ Sp k v w) →
    (∀ v w', Below w.heap.size w w' → Sp i v w' → K (a.put o.dst v) w') →
    if Region.wanted o (yielded ops a.tmps) = true then o.wp P a w K Q else K (a.put o.dst undef) w
theorem wp_region_grow {id n m : Nat} {Q : Exit → Act → World → Prop} {a0 : Act} {w0 : World} {l : List Oper} (Sp : Nat → Value → World → Prop) (hm : P.follows .mixedOrders = true) (hB : headB .any l.toArray n = true) (hd : dstsB l.toArray n m = true) (hsz : m ≤ a0.tmps.size)
    (hst : ∀ i v w w', i < n → Sp i v w → Below w.heap.size w w' → Sp i v w')
    (hduty : ∀ i o, i < n → l.toArray[i]? = some o → Duty P l.toArray n Sp a0 w0.drew i o)
    (hend : ∀ (V : Nat → Value) (w : World), Below w0.drew.heap.size w0.drew w → (∀ i, i < n → Sp i (V i) w) → wpList P l.toArray Q (l.drop n) (putV l.toArray V a0 n) w) :
    (Code.region id l.toArray true).wp P Q a0 w0 := by
  have hn : n ≤ l.toArray.size := by
    simp only [headB, Bool.and_eq_true, decide_eq_true_eq] at hB
    exact hB.1.1.2
  refine wp_region_any hm ?_
  have H := wpAny_inv (P := P) (md := .any) (ops := l.toArray) (n := n) (Q := Q) (Inv := fun listed a w => Below w0.drew.heap.size w0.drew w ∧ ∃ V, Fr l.toArray n a0 V listed a ∧ ∀ i, i < n → listed.getD i false = true → Sp i (V i) w) hB ?_ ?_ n (Array.replicate l.toArray.size false) a0 w0.drew
    ⟨by simp, fun j oj _ hl => (by rw [getD_replicate_false] at hl; cases hl), fun t _ ht => getD_in (by simpa using ht) (getD_replicate_false _ _)⟩ ?_
    ⟨Below.refl _ _, fun _ => undef, ⟨rfl, rfl, fun _ _ => rfl, fun i t _ hl => (by rw [getD_replicate_false] at hl; cases hl)⟩, fun i _ hl => (by rw [getD_replicate_false] at hl; cases hl)⟩
  · rw [show n + (l.toArray.size - n) = l.toArray.size by omega] at H
    exact H
  · rintro listed a w i inv hr hi ⟨hb, V, hF, hS⟩
    obtain ⟨hun, o, ho, hall⟩ := mem_ready.1 hr
    have hD := hduty i o hi ho a w Q (fun a' w' => Below w0.drew.heap.size w0.drew w' ∧ ∃ V, Fr l.toArray n a0 V (listed.setIfInBounds i true) a' ∧ ∀ k, k < n → (listed.setIfInBounds i true).getD k false = true → Sp k (V k) w') hb hF.other
      (fun k t hk hw ht => by
        obtain ⟨oj, hoj, e, he, hbd, hon⟩ := Region.waitsFor_spec hw
        have : oj = o := Option.some.inj (hoj.symm.trans ho)
        subst this
        have hl := hall e he hbd
        rw [hon] at hl
        exact ⟨V k, hF.at_ k t hk hl ht, hS k hk hl⟩)
      (fun v w' hbw hv => by
        refine ⟨hb.trans (hbw.mono hb.size), fun k => if k = i then v else V k, ?_, fun k hk hl => ?_⟩
        · have e : (l.toArray[i]?).bind (·.dst) = o.dst := by rw [ho]; rfl
          have := hF.put hd hsz hi hun v
          rwa [e] at this
        · by_cases e : k = i
          · subst e
            simpa using hv
          · simp only [if_neg e]
            rw [getD_set_ne false (fun e' => e e'.symm)] at hl
            exact hst k _ _ _ hk (hS k hk hl) hbw)
    unfold wpOp
    simp only [ho]
    split
    · rename_i hw
      rw [if_pos hw] at hD
      exact .inl hD
    · rename_i hw
      rw [if_neg hw] at hD
      exact hD
  · rintro a w ⟨hb, V, hF, hS⟩
    have hl : ∀ i, i < n → (doneA n (l.toArray.size - n)).getD i false = true := fun i hi => by
      unfold doneA
      simp [List.getElem?_append_left, hi]
    rw [hF.done hd hsz hl]
    have := hend V w hb fun i hi => hS i hi (hl i hi)
    simpa using this
  · unfold leftH
    have : ((List.range n).filter fun i => !(Array.replicate l.toArray.size false).getD i true) = List.range n := List.filter_eq_self.2 fun i hi => by
      have := List.mem_range.1 hi
      have : i < l.length := by simp at hn; omega
      simp [this]
    rw [this, List.length_range]
end


section
variable {P : Program} {ops : Array Oper}
def upd {α : Type} (V : Nat → α) (i : Nat) (v : α) : Nat → α := fun k => if k = i then v else V k
theorem upd_same {α : Type} (V : Nat → α) (i : Nat) (v : α) : upd V i v i = v := if_pos rfl
theorem upd_other {α : Type} (V : Nat → α) {i k : Nat} (v : α) (h : k ≠ i) : upd V i v k = V k := if_neg h
/-- The values that operation i may speak of: its own, and those that it waits for. -/
def mask (ops : Array Oper) (i : Nat) (V : Nat → Value) : Nat → Value := fun k => if k = i ∨ waits ops i k = true then V k else undef
theorem mask_self (ops : Array Oper) (i : Nat) (V : Nat → Value) : mask ops i V i = V i := if_pos (.inl rfl)
theorem mask_waits {i k : Nat} (V : Nat → Value) (h : waits ops i k = true) : mask ops i V k = V k := if_pos (.inr h)
theorem mask_upd {i j : Nat} (V : Nat → Value) (v : Value) (hij : i ≠ j) (h : waits ops i j = false) : mask ops i (upd V j v) = mask ops i V := by
  funext k
  unfold mask
  by_cases hk : k = i ∨ waits ops i k = true
  · rw [if_pos hk, if_pos hk]
    refine upd_other V v fun e => ?_
    subst e
    rcases hk with hk | hk
    · exact hij hk.symm
    · rw [h] at hk
      cases hk
  · rw [if_neg hk, if_neg hk]
structure GrowM (w w' : World) (M : Nat → Prop) : Prop where
  os : w'.os = w.os
  tape : w'.tape = w.tape
  output : w'.output = w.output
  size : w.heap.size ≤ w'.heap.size
  block : ∀ b, b < w.heap.size → ¬ M b → w'.heap[b]? = w.heap[b]?
theorem GrowM.of_below {w w' : World} {M : Nat → Prop} (h : Below w.heap.size w w') : GrowM w w' M := ⟨h.os, h.tape, h.output, h.size, fun b hb _ => h.block b hb⟩
theorem GrowM.below {w w' : World} {M : Nat → Prop} (h : GrowM w w' M) (hM : ∀ b, ¬ M b) : Below w.heap.size w w' := ⟨h.os, h.tape, h.output, h.size, fun b hb => h.block b hb (hM b)⟩
theorem GrowM.base {w1 w w' : World} {M : Nat → Prop} (hb : Below w1.heap.size w1 w) (h : GrowM w w' M) (hM : ∀ b, M b → w1.heap.size ≤ b) : Below w1.heap.size w1 w' :=
  ⟨h.os.trans hb.os, h.tape.trans hb.tape, h.output.trans hb.output, Nat.le_trans hb.size h.size, fun b hlt => (h.block b (Nat.lt_of_lt_of_le hlt hb.size) (fun hm => by have := hM b hm; omega)).trans (hb.block b hlt)⟩
def consB (ops : Array Oper) (n : Nat) (cons : Nat → List Nat) : Bool :=
  (List.range n).all fun i => (cons i).all fun k => decide (k < n) && waits ops i k && (List.range n).all fun j => decide (i = j) || !(cons j).contains k
theorem consB_spec {n : Nat} {cons : Nat → List Nat} (h : consB ops n cons = true) {i k : Nat} (hi : i < n) (hk : k ∈ cons i) : k < n ∧ waits ops i k = true ∧ ∀ j, j < n → i ≠ j → k ∉ cons j := by
  have h1 := List.all_eq_true.1 (List.all_eq_true.1 h i (List.mem_range.2 hi)) k hk
  simp only [Bool.and_eq_true, decide_eq_true_eq] at h1
  refine ⟨h1.1.1, h1.1.2, fun j hj hij hc => ?_⟩
  have h2 := List.all_eq_true.1 h1.2 j (List.mem_range.2 hj)
  simp only [Bool.or_eq_true, decide_eq_true_eq, Bool.not_eq_true', List.contains_eq_mem, decide_eq_false_iff_not] at h2
  rcases h2 with h2 | h2
  · exact hij h2
  · exact h2 hc
def mutB (ops : Array Oper) (n : Nat) (cons : Nat → List Nat) (mu loc : Nat → Bool) : Bool :=
  (List.range n).all fun j => !mu j || (List.range n).all fun k => decide (k = j) || (cons j).contains k || loc k || waits ops k j || (List.range n).any fun c => (cons c).contains k && waits ops j c
theorem mutB_spec {n : Nat} {cons : Nat → List Nat} {mu loc : Nat → Bool} (h : mutB ops n cons mu loc = true) {j k : Nat} (hj : j < n) (hk : k < n) (hm : mu j = true) (hkj : k ≠ j) (hc : k ∉ cons j) (hl : loc k = false) :
    waits ops k j = true ∨ ∃ c, c < n ∧ k ∈ cons c ∧ waits ops j c = true := by
  have h1 := List.all_eq_true.1 h j (List.mem_range.2 hj)
  simp only [hm, Bool.not_true, Bool.false_or] at h1
  have h2 := List.all_eq_true.1 h1 k (List.mem_range.2 hk)
  simp only [Bool.or_eq_true, decide_eq_true_eq, List.contains_eq_mem, hl, List.any_eq_true, Bool.and_eq_true, List.mem_range] at h2
  rcases h2 with (((h2 | h2) | h2) | h2) | ⟨c, h2, h3, h4⟩
  · exact absurd h2 hkj
  · exact absurd h2 hc
  · cases h2
  · exact .inl h2
  · exact .inr ⟨c, h2, h3, h4⟩
/-- The same below W, in the frozen blocks, and in F. -/
structure Keeps (B : Nat) (Z : Nat → Prop) (w w' : World) : Prop where
  os : w'.os = w.os
  tape : w'.tape = w.tape
  output : w'.output = w.output
  size : w.heap.size ≤ w'.heap.size
  block : ∀ b, b < w.heap.size → (b < B ∨ Z b) → w'.heap[b]? = w.heap[b]?
/-- One operation's duty: what it yields for good (Pz, over frozen blocks), and what it holds (Re, over its own blocks). -/
def Duty3 (P : Program) (ops : Array Oper) (n : Nat) (cons : Nat → List Nat) (mu : Nat → Bool) (Pz : Nat → (Nat → Value) → World → (Nat → Prop) → Prop) (Re : Nat → (Nat → Value) → World → (Nat → Prop) → (Nat → Prop) → Prop) (a0 : Act) (w1 : World) (i : Nat) (o : Oper) : Prop :=
  ∀ (a : Act) (w : World) (Q : Exit → Act → World → Prop) (K : Act → World → Prop) (V : Nat → Value) (Z : Nat → Prop) (F : Nat → Nat → Prop), Below w1.heap.size w1 w →
    (∀ t, (∀ k, k < n → (ops[k]?).bind (·.dst) ≠ some t) → a.tmps[t]? = a0.tmps[t]?) →
    (∀ k t, k < n → waits ops i k = true → (ops[k]?).bind (·.dst) = some t → a.tmps[t]? = some (V k)) →
    (∀ b, Z b → w1.heap.size ≤ b ∧ b < w.heap.size) →
    (∀ k, k < n → waits ops i k = true → Pz k (mask ops k V) w Z) →
    (∀ k, k ∈ cons i → Re k (mask ops k V) w Z (F k) ∧ ∀ b, F k b → w1.heap.size ≤ b ∧ b < w.heap.size ∧ ¬ Z b) →
    (∀ k k' b, k ∈ cons i → k' ∈ cons i → k ≠ k' → F k b → F k' b → False) →
    (∀ v w' (Z' F' : Nat → Prop), GrowM w w' (fun b => mu i = true ∧ ∃ k, k ∈ cons i ∧ F k b) → (∀ b, Z b → Z' b) →
      (∀ b, Z' b → Z b ∨ (∃ k, k ∈ cons i ∧ F k b) ∨ (w.heap.size ≤ b ∧ b < w'.heap.size)) →
      (∀ b, F' b → ((∃ k, k ∈ cons i ∧ F k b) ∨ (w.heap.size ≤ b ∧ b < w'.heap.size)) ∧ ¬ Z' b) →
      Pz i (mask ops i (upd V i v)) w' Z' → Re i (mask ops i (upd V i v)) w' Z' F' → K (a.put o.dst v) w') →
    if Region.wanted o (yielded ops a.tmps) = true then o.wp P a w K Q else K (a.put o.dst undef) w
structure Inv3 (ops : Array Oper) (n : Nat) (cons : Nat → List Nat) (Pz : Nat → (Nat → Value) → World → (Nat → Prop) → Prop) (Re : Nat → (Nat → Value) → World → (Nat → Prop) → (Nat → Prop) → Prop) (a0 : Act) (w1 : World) (V : Nat → Value) (Z : Nat → Prop) (F : Nat → Nat → Prop) (listed : Array Bool) (a : Act) (w : World) : Prop where
  below : Below w1.heap.size w1 w
  fr : Fr ops n a0 V listed a
  zb : ∀ b, Z b → w1.heap.size ≤ b ∧ b < w.heap.size
  pz : ∀ i, i < n → listed.getD i false = true → Pz i (mask ops i V) w Z
  re : ∀ i, i < n → listed.getD i false = true → (∀ c, c < n → listed.getD c false = true → i ∉ cons c) → Re i (mask ops i V) w Z (F i) ∧ ∀ b, F i b → w1.heap.size ≤ b ∧ b < w.heap.size ∧ ¬ Z b
  apart : ∀ i j b, i < n → j < n → i ≠ j → listed.getD i false = true → listed.getD j false = true → (∀ c, c < n → listed.getD c false = true → i ∉ cons c) → (∀ c, c < n → listed.getD c false = true → j ∉ cons c) → F i b → F j b → False
theorem any_sepW {n m : Nat} {Q : Exit → Act → World → Prop} {a0 : Act} {w0 : World} {l : List Oper} (cons : Nat → List Nat) (mu : Nat → Bool) (Pz : Nat → (Nat → Value) → World → (Nat → Prop) → Prop) (Re : Nat → (Nat → Value) → World → (Nat → Prop) → (Nat → Prop) → Prop)
    (hB : HeadW .any l.toArray n) (hd : dstsB l.toArray n m = true) (hsz : m ≤ a0.tmps.size) (hc : consB l.toArray n cons = true)
    (hstP : ∀ i U w w' Z Z', i < n → Pz i U w Z → (∀ b, Z b → Z' b) → (∀ b, Z b → b < w.heap.size) → w0.drew.heap.size ≤ w.heap.size → Keeps w0.drew.heap.size Z w w' → Pz i U w' Z')
    (hstR : ∀ i U w w' Z Z' F, i < n → Re i U w Z F → (∀ b, Z b → Z' b) → (∀ b, Z b → b < w.heap.size) → (∀ b, F b → b < w.heap.size) → w0.drew.heap.size ≤ w.heap.size → Keeps w0.drew.heap.size (fun b => Z b ∨ F b) w w' → Re i U w' Z' F)
    (hduty : ∀ i o, i < n → l.toArray[i]? = some o → Duty3 P l.toArray n cons mu Pz Re a0 w0.drew i o)
    (hend : ∀ (V : Nat → Value) (Z : Nat → Prop) (F : Nat → Nat → Prop) (w : World), Below w0.drew.heap.size w0.drew w → (∀ b, Z b → w0.drew.heap.size ≤ b ∧ b < w.heap.size) → (∀ i, i < n → Pz i (mask l.toArray i V) w Z) →
      (∀ i, i < n → (∀ c, c < n → i ∉ cons c) → Re i (mask l.toArray i V) w Z (F i) ∧ ∀ b, F i b → w0.drew.heap.size ≤ b ∧ b < w.heap.size ∧ ¬ Z b) →
      (∀ i j b, i < n → j < n → i ≠ j → (∀ c, c < n → i ∉ cons c) → (∀ c, c < n → j ∉ cons c) → F i b → F j b → False) → wpAny P .any l.toArray Q (l.toArray.size - n) (doneA n (l.toArray.size - n)) (putV l.toArray V a0 n) w) :
    wpAny P .any l.toArray Q l.toArray.size (Array.replicate l.toArray.size false) a0 w0.drew := by
  have hn : n ≤ l.toArray.size := hB.le
  have H := wpAny_invW (P := P) (md := .any) (ops := l.toArray) (n := n) (Q := Q) (Inv := fun listed a w => ∃ V Z F, Inv3 l.toArray n cons Pz Re a0 w0.drew V Z F listed a w) hB ?_ ?_ n (Array.replicate l.toArray.size false) a0 w0.drew
    ⟨by simp, fun j oj _ hl => (by rw [getD_replicate_false] at hl; cases hl), fun t _ ht => getD_in (by simpa using ht) (getD_replicate_false _ _)⟩ ?_
    ⟨fun _ => undef, fun _ => False, fun _ _ => False, Below.refl _ _, ⟨rfl, rfl, fun _ _ => rfl, fun i t _ hl => (by rw [getD_replicate_false] at hl; cases hl)⟩, fun b hb => hb.elim, fun i _ hl => (by rw [getD_replicate_false] at hl; cases hl), fun i _ hl => (by rw [getD_replicate_false] at hl; cases hl), fun i j b _ _ _ hl => (by rw [getD_replicate_false] at hl; cases hl)⟩
  · rw [show n + (l.toArray.size - n) = l.toArray.size by omega] at H
    exact H
  · rintro listed a w j inv hr hj ⟨V, Z, F, I⟩
    obtain ⟨hun, o, ho, hall⟩ := mem_ready.1 hr
    have hunf : listed.getD j false = false := getD_both hun
    have hlw : ∀ k, waits l.toArray j k = true → listed.getD k false = true := fun k hw => by
      obtain ⟨oj, hoj, e, he, hbd, hon⟩ := Region.waitsFor_spec hw
      have : oj = o := Option.some.inj (hoj.symm.trans ho)
      subst this
      have hl := hall e he hbd
      rwa [hon] at hl
    have hnw : ∀ i, listed.getD i false = true → waits l.toArray i j = false := fun i hl => by
      cases hw : waits l.toArray i j with
      | false => rfl
      | true =>
        obtain ⟨oi, hoi, e, he, hbd, hon⟩ := Region.waitsFor_spec hw
        have h1 := inv.closed i oi hoi hl e he hbd
        rw [hon, hunf] at h1
        cases h1
    have hlive : ∀ k, k ∈ cons j → ∀ c, c < n → listed.getD c false = true → k ∉ cons c := fun k hk c hcn hcl => by
      refine (consB_spec hc hj hk).2.2 c hcn fun e => ?_
      subst e
      rw [hunf] at hcl
      cases hcl
    have hcl : ∀ k, k ∈ cons j → k < n ∧ listed.getD k false = true := fun k hk => ⟨(consB_spec hc hj hk).1, hlw k (consB_spec hc hj hk).2.1⟩
    have hB1 : w0.drew.heap.size ≤ w.heap.size := I.below.size
    have hD := hduty j o hj ho a w Q (fun a' w' => ∃ V Z F, Inv3 l.toArray n cons Pz Re a0 w0.drew V Z F (listed.setIfInBounds j true) a' w') V Z F I.below I.fr.other
      (fun k t hk hw ht => I.fr.at_ k t hk (hlw k hw) ht) I.zb (fun k hk hw => I.pz k hk (hlw k hw))
      (fun k hk => I.re k (hcl k hk).1 (hcl k hk).2 (hlive k hk))
      (fun k k' b hk hk' hne h1 h2 => I.apart k k' b (hcl k hk).1 (hcl k' hk').1 hne (hcl k hk).2 (hcl k' hk').2 (hlive k hk) (hlive k' hk') h1 h2)
      (fun v w' Z' F' hg hZ hZ' hF' hP hR => by
        have hFk : ∀ k b, k ∈ cons j → F k b → w0.drew.heap.size ≤ b ∧ b < w.heap.size ∧ ¬ Z b := fun k b hk hf => (I.re k (hcl k hk).1 (hcl k hk).2 (hlive k hk)).2 b hf
        have hMb : ∀ b, (mu j = true ∧ ∃ k, k ∈ cons j ∧ F k b) → w0.drew.heap.size ≤ b ∧ ¬ Z b := fun b ⟨_, k, hk, hf⟩ => ⟨(hFk k b hk hf).1, (hFk k b hk hf).2.2⟩
        have hset : ∀ i, i ≠ j → (listed.setIfInBounds j true).getD i false = true → listed.getD i false = true := fun i hij hl => by
          rwa [getD_set_ne false (fun e => hij e.symm)] at hl
        have hjset : (listed.setIfInBounds j true).getD j false = true := by
          have : j < listed.size := by rw [inv.size]; omega
          simp [this]
        have hold : ∀ i, (∀ c, c < n → (listed.setIfInBounds j true).getD c false = true → i ∉ cons c) → (∀ c, c < n → listed.getD c false = true → i ∉ cons c) ∧ i ∉ cons j := fun i h =>
          ⟨fun c hcn hl => h c hcn (getD_set_true hl), h j hj hjset⟩
        refine ⟨upd V j v, Z', upd F j F', hg.base I.below fun b hb => (hMb b hb).1, ?_, fun b hb => ?_, fun i hi hl => ?_, fun i hi hl hlv => ?_, fun i i' b hi hi' hne hl hl' hv hv' h1 h2 => ?_⟩
        · have e : (l.toArray[j]?).bind (·.dst) = o.dst := by rw [ho]; rfl
          have := I.fr.put hd hsz hj hun v
          rwa [e] at this
        · rcases hZ' b hb with h1 | ⟨k, hk, hf⟩ | h1
          · exact ⟨(I.zb b h1).1, Nat.lt_of_lt_of_le (I.zb b h1).2 hg.size⟩
          · exact ⟨(hFk k b hk hf).1, Nat.lt_of_lt_of_le (hFk k b hk hf).2.1 hg.size⟩
          · exact ⟨Nat.le_trans hB1 h1.1, h1.2⟩
        · by_cases e : i = j
          · subst e; exact hP
          · rw [mask_upd V v e (hnw i (hset i e hl))]
            refine hstP i _ w w' Z Z' hi (I.pz i hi (hset i e hl)) hZ (fun b hb => (I.zb b hb).2) hB1 ⟨hg.os, hg.tape, hg.output, hg.size, fun b hb hbz => hg.block b hb fun hM => ?_⟩
            have := hMb b hM
            rcases hbz with hbz | hbz
            · omega
            · exact this.2 hbz
        · by_cases e : i = j
          · subst e
            rw [upd_same]
            refine ⟨hR, fun b hb => ?_⟩
            obtain ⟨h1, h2⟩ := hF' b hb
            rcases h1 with ⟨k, hk, hf⟩ | h1
            · exact ⟨(hFk k b hk hf).1, Nat.lt_of_lt_of_le (hFk k b hk hf).2.1 hg.size, h2⟩
            · exact ⟨Nat.le_trans hB1 h1.1, h1.2, h2⟩
          · have hli := hset i e hl
            obtain ⟨hlv1, hlv2⟩ := hold i hlv
            rw [mask_upd V v e (hnw i hli), upd_other F F' e]
            obtain ⟨r1, r2⟩ := I.re i hi hli hlv1
            have hnk : ∀ k b, k ∈ cons j → F i b → F k b → False := fun k b hk h1 h2 => I.apart i k b hi (hcl k hk).1 (fun e' => hlv2 (e' ▸ hk)) hli (hcl k hk).2 hlv1 (hlive k hk) h1 h2
            refine ⟨hstR i _ w w' Z Z' (F i) hi r1 hZ (fun b hb => (I.zb b hb).2) (fun b hb => (r2 b hb).2.1) hB1 ⟨hg.os, hg.tape, hg.output, hg.size, fun b hb hbz => hg.block b hb fun hM => ?_⟩, fun b hb => ⟨(r2 b hb).1, Nat.lt_of_lt_of_le (r2 b hb).2.1 hg.size, fun hz => ?_⟩⟩
            · have := hMb b hM
              obtain ⟨_, k, hk, hf⟩ := hM
              rcases hbz with hbz | hbz | hbz
              · omega
              · exact this.2 hbz
              · exact hnk k b hk hbz hf
            · rcases hZ' b hz with h1 | ⟨k, hk, hf⟩ | h1
              · exact (r2 b hb).2.2 h1
              · exact hnk k b hk hb hf
              · have := (r2 b hb).2.1
                omega
        · have key : ∀ i, i < n → i ≠ j → (listed.setIfInBounds j true).getD i false = true → (∀ c, c < n → (listed.setIfInBounds j true).getD c false = true → i ∉ cons c) → ∀ b, F i b → F' b → False := fun i hi e hl hlv b hb hb' => by
            have hli := hset i e hl
            obtain ⟨hlv1, hlv2⟩ := hold i hlv
            rcases (hF' b hb').1 with ⟨k, hk, hf⟩ | h
            · exact I.apart i k b hi (hcl k hk).1 (fun e' => hlv2 (e' ▸ hk)) hli (hcl k hk).2 hlv1 (hlive k hk) hb hf
            · have := ((I.re i hi hli hlv1).2 b hb).2.1
              omega
          by_cases e : i = j
          · subst e
            have e' : i' ≠ i := fun e' => hne e'.symm
            rw [upd_same] at h1
            rw [upd_other F F' e'] at h2
            exact key i' hi' e' hl' hv' b h2 h1
          · rw [upd_other F F' e] at h1
            by_cases e' : i' = j
            · subst e'
              rw [upd_same] at h2
              exact key i hi e hl hv b h1 h2
            · rw [upd_other F F' e'] at h2
              exact I.apart i i' b hi hi' hne (hset i e hl) (hset i' e' hl') (hold i hv).1 (hold i' hv').1 h1 h2)
    unfold wpOp
    simp only [ho]
    split
    · rename_i hw
      rw [if_pos hw] at hD
      exact .inl hD
    · rename_i hw
      rw [if_neg hw] at hD
      exact hD
  · rintro a w ⟨V, Z, F, I⟩
    have hl : ∀ i, i < n → (doneA n (l.toArray.size - n)).getD i false = true := fun i hi => by
      unfold doneA
      simp [List.getElem?_append_left, hi]
    rw [I.fr.done hd hsz hl]
    have := hend V Z F w I.below I.zb (fun i hi => I.pz i hi (hl i hi)) (fun i hi hlv => I.re i hi (hl i hi) fun c hcn _ => hlv c hcn) fun i j b hi hj hne h1 h2 => I.apart i j b hi hj hne (hl i hi) (hl j hj) (fun c hcn _ => h1 c hcn) fun c hcn _ => h2 c hcn
    simpa using this
  · unfold leftH
    have : ((List.range n).filter fun i => !(Array.replicate l.toArray.size false).getD i true) = List.range n := List.filter_eq_self.2 fun i hi => by
      have := List.mem_range.1 hi
      have : i < l.length := by simp at hn; omega
      simp [this]
    rw [this, List.length_range]
theorem wp_region_sepW {id n m : Nat} {Q : Exit → Act → World → Prop} {a0 : Act} {w0 : World} {l : List Oper} (cons : Nat → List Nat) (mu : Nat → Bool) (Pz : Nat → (Nat → Value) → World → (Nat → Prop) → Prop) (Re : Nat → (Nat → Value) → World → (Nat → Prop) → (Nat → Prop) → Prop)
    (hm : P.follows .mixedOrders = true) (hB : HeadW .any l.toArray n) (hd : dstsB l.toArray n m = true) (hsz : m ≤ a0.tmps.size) (hc : consB l.toArray n cons = true)
    (hstP : ∀ i U w w' Z Z', i < n → Pz i U w Z → (∀ b, Z b → Z' b) → (∀ b, Z b → b < w.heap.size) → w0.drew.heap.size ≤ w.heap.size → Keeps w0.drew.heap.size Z w w' → Pz i U w' Z')
    (hstR : ∀ i U w w' Z Z' F, i < n → Re i U w Z F → (∀ b, Z b → Z' b) → (∀ b, Z b → b < w.heap.size) → (∀ b, F b → b < w.heap.size) → w0.drew.heap.size ≤ w.heap.size → Keeps w0.drew.heap.size (fun b => Z b ∨ F b) w w' → Re i U w' Z' F)
    (hduty : ∀ i o, i < n → l.toArray[i]? = some o → Duty3 P l.toArray n cons mu Pz Re a0 w0.drew i o)
    (hend : ∀ (V : Nat → Value) (Z : Nat → Prop) (F : Nat → Nat → Prop) (w : World), Below w0.drew.heap.size w0.drew w → (∀ b, Z b → w0.drew.heap.size ≤ b ∧ b < w.heap.size) → (∀ i, i < n → Pz i (mask l.toArray i V) w Z) →
      (∀ i, i < n → (∀ c, c < n → i ∉ cons c) → Re i (mask l.toArray i V) w Z (F i) ∧ ∀ b, F i b → w0.drew.heap.size ≤ b ∧ b < w.heap.size ∧ ¬ Z b) →
      (∀ i j b, i < n → j < n → i ≠ j → (∀ c, c < n → i ∉ cons c) → (∀ c, c < n → j ∉ cons c) → F i b → F j b → False) → wpAny P .any l.toArray Q (l.toArray.size - n) (doneA n (l.toArray.size - n)) (putV l.toArray V a0 n) w) :
    (Code.region id l.toArray true).wp P Q a0 w0 := wp_region_any hm (any_sepW cons mu Pz Re hB hd hsz hc hstP hstR hduty hend)
theorem wp_region_sep {id n m : Nat} {Q : Exit → Act → World → Prop} {a0 : Act} {w0 : World} {l : List Oper} (cons : Nat → List Nat) (mu : Nat → Bool) (Pz : Nat → (Nat → Value) → World → (Nat → Prop) → Prop) (Re : Nat → (Nat → Value) → World → (Nat → Prop) → (Nat → Prop) → Prop)
    (hm : P.follows .mixedOrders = true) (hB : headB .any l.toArray n = true) (hd : dstsB l.toArray n m = true) (hsz : m ≤ a0.tmps.size) (hc : consB l.toArray n cons = true)
    (hstP : ∀ i U w w' Z Z', i < n → Pz i U w Z → (∀ b, Z b → Z' b) → (∀ b, Z b → b < w.heap.size) → w0.drew.heap.size ≤ w.heap.size → Keeps w0.drew.heap.size Z w w' → Pz i U w' Z')
    (hstR : ∀ i U w w' Z Z' F, i < n → Re i U w Z F → (∀ b, Z b → Z' b) → (∀ b, Z b → b < w.heap.size) → (∀ b, F b → b < w.heap.size) → w0.drew.heap.size ≤ w.heap.size → Keeps w0.drew.heap.size (fun b => Z b ∨ F b) w w' → Re i U w' Z' F)
    (hduty : ∀ i o, i < n → l.toArray[i]? = some o → Duty3 P l.toArray n cons mu Pz Re a0 w0.drew i o)
    (hend : ∀ (V : Nat → Value) (Z : Nat → Prop) (F : Nat → Nat → Prop) (w : World), Below w0.drew.heap.size w0.drew w → (∀ b, Z b → w0.drew.heap.size ≤ b ∧ b < w.heap.size) → (∀ i, i < n → Pz i (mask l.toArray i V) w Z) →
      (∀ i, i < n → (∀ c, c < n → i ∉ cons c) → Re i (mask l.toArray i V) w Z (F i) ∧ ∀ b, F i b → w0.drew.heap.size ≤ b ∧ b < w.heap.size ∧ ¬ Z b) →
      (∀ i j b, i < n → j < n → i ≠ j → (∀ c, c < n → i ∉ cons c) → (∀ c, c < n → j ∉ cons c) → F i b → F j b → False) → wpList P l.toArray Q (l.drop n) (putV l.toArray V a0 n) w) :
    (Code.region id l.toArray true).wp P Q a0 w0 :=
  wp_region_sepW cons mu Pz Re hm (headW_of hB) hd hsz hc hstP hstR hduty fun V Z F w h1 h2 h3 h4 h5 => tail_seq hB (by simpa using hend V Z F w h1 h2 h3 h4 h5)
end
end Go.Proofs.Ytbfmaicoefefaaa.Pv
/-! ## Part 11 -/
namespace Go.Proofs.Ytbfmaicoefefaaa.Pv
open Go Go.RowKit
/-! ### The reading is told more of a world that stands -/
section
variable {C : Cx} {h : H} {w : World}
def CF (C : Cx) (F : Nat → Prop) : Cx := { C with S := fun b o => C.S b o ∨ F b }
theorem CF.ev {C : Cx} {w : World} {F G : Nat → Prop} (hFG : ∀ b, F b → G b) : Ev (CF C F) w (CF C G) w :=
  ⟨rfl, rfl, rfl, Nat.le_refl _, fun b o h => h.imp id (hFG b), fun _ _ _ => rfl, fun _ _ h => h, fun _ u h => ⟨u, h, .inl rfl⟩⟩
theorem CF.ev0 {C : Cx} {w : World} {F : Nat → Prop} : Ev C w (CF C F) w :=
  ⟨rfl, rfl, rfl, Nat.le_refl _, fun b o h => .inl h, fun _ _ _ => rfl, fun _ _ h => h, fun _ u h => ⟨u, h, .inl rfl⟩⟩
theorem Sim.ext_S (s : Sim C h w) {F : Nat → Prop} (hF : ∀ b, F b → b < w.heap.size ∧ ∀ id, ¬ C.blk id b) : Sim (CF C F) h w := by
  refine ⟨s.S.mono CF.ev0 fun b o hs => hs.elim (s.S b o) fun hf => (hF b hf).1, fun id t ds e => ?_, fun id e sz n e' => ?_, s.lt, s.idb, s.idl, s.inj, s.one, fun id b P e => ⟨(s.keep id b P e).bx, (s.keep id b P e).ob, fun o hs => hs.elim ((s.keep id b P e).ns o) fun hf => (hF b hf).2 id (.inl (s.keep id b P e).bx)⟩⟩
  · obtain ⟨b, vs, h1, h2, h3, h4, h5⟩ := s.box id t ds e
    exact ⟨b, vs, h1, h2, h3.mono CF.ev0, h4, fun o hs => hs.elim (h5 o) fun hf => (hF b hf).2 id (.inl h1)⟩
  · obtain ⟨u, xs, h1, h2, h3⟩ := s.log id e sz n e'
    exact ⟨u, xs, h1, h2, fun b o hb hs => hs.elim (h3 b o hb) fun hf => absurd (.inr ⟨u, h1, hb⟩) ((hF b hf).2 id)⟩
/-- A row that nobody reads or owns becomes a log. -/
theorem Sim.ext_log (s : Sim C h w) {e sz n : Nat} {u : Value} {xs : List Value} (ho : w.ownsRow 0 e sz u n xs) (hu : ∀ b, u.ownBlock = some b → (∀ o, ¬ C.S b o) ∧ ∀ id, ¬ C.blk id b) :
    ∃ C', Ev C w C' w ∧ Sim C' (h ++ [.log e sz n]) w ∧ C'.lg h.length = some u ∧ (∀ b o, u.ownBlock = some b → o < n * sz → C'.S b o) ∧ (∀ b o, C'.S b o → C.S b o ∨ u.ownBlock = some b) ∧ ∀ id b, C'.blk id b → C.blk id b ∨ u.ownBlock = some b := by
  obtain ⟨fb, fl⟩ := s.fresh
  let C' : Cx := { S := fun b o => C.S b o ∨ (u.ownBlock = some b ∧ o < n * sz), bx := C.bx, lg := setf C.lg h.length u }
  have hblk : ∀ id b, C'.blk id b → C.blk id b ∨ (id = h.length ∧ u.ownBlock = some b) := fun id b hb => by
    rcases hb with hb | ⟨u', hu', hb⟩
    · exact .inl (.inl hb)
    · by_cases e : id = h.length
      · subst e
        have : some u = some u' := (setf_same _ _ _).symm.trans hu'
        cases this
        exact .inr ⟨rfl, hb⟩
      · exact .inl (.inr ⟨u', (setf_other _ _ e).symm.trans hu', hb⟩)
  have hlg : ∀ id x, C.lg id = some x → C'.lg id = some x := fun id x hx => by
    have : id ≠ h.length := fun e => by subst e; rw [fl] at hx; cases hx
    exact (setf_other _ _ this).trans hx
  have f : Ev C w C' w := ⟨rfl, rfl, rfl, Nat.le_refl _, fun _ _ h => .inl h, fun _ _ _ => rfl, fun _ _ h => h, fun id x hx => ⟨x, hlg id x hx, .inl rfl⟩⟩
  refine ⟨C', f, ⟨s.S.mono f fun b o hs => ?_, fun id t ds e' => ?_, fun id e2 sz2 n2 e' => ?_, fun id b hb => ?_, fun id b hb => ?_, fun id x hx => ?_, fun id id' b hb hb' => ?_, fun id b hb => ?_, fun id b P e' => ?_⟩, setf_same _ _ _, fun b o hb ho => .inr ⟨hb, ho⟩, fun b o hs => hs.imp id (·.1), fun id b hb => (hblk id b hb).imp (fun h => h) (·.2)⟩
  · rcases hs with hs | ⟨hb, _⟩
    · exact s.S b o hs
    · exact (ho.lt b hb).2
  · rcases ids_old e' with ⟨_, e'⟩ | ⟨_, e'⟩
    · obtain ⟨b, vs, h1, h2, h3, h4, h5⟩ := s.box id t ds e'
      refine ⟨b, vs, h1, h2, h3.mono f, h4, fun o hs => ?_⟩
      rcases hs with hs | ⟨hb, _⟩
      · exact h5 o hs
      · exact (hu b hb).2 id (.inl h1)
    · cases e'
  · rcases ids_old e' with ⟨_, e3⟩ | ⟨rfl, e3⟩
    · obtain ⟨x, ys, h1, h2, h3⟩ := s.log id e2 sz2 n2 e3
      refine ⟨x, ys, hlg id x h1, h2, fun b o hb hs => ?_⟩
      rcases hs with hs | ⟨hb', _⟩
      · exact h3 b o hb hs
      · exact absurd (.inr ⟨x, h1, hb⟩) ((hu b hb').2 id)
    · cases e3
      refine ⟨u, xs, setf_same _ _ _, ho, fun b o hb hs => ?_⟩
      rcases hs with hs | ⟨_, hs⟩
      · exact absurd hs ((hu b hb).1 o)
      · exact hs
  · rcases hblk id b hb with h' | ⟨_, h'⟩
    · exact s.lt id b h'
    · exact (ho.lt b h').2
  · have := s.idb id b hb
    simp; omega
  · by_cases e : id = h.length
    · simp [e]
    · have := s.idl id x ((setf_other _ _ e).symm.trans hx)
      simp; omega
  · rcases hblk id b hb with h2 | ⟨rfl, h2⟩ <;> rcases hblk id' b hb' with h3 | ⟨rfl, h3⟩
    · exact s.inj id id' b h2 h3
    · exact absurd h2 ((hu b h3).2 id)
    · exact absurd h3 ((hu b h2).2 id')
    · rfl
  · have : id ≠ h.length := fun e => by
      have := s.idb id b hb
      omega
    exact (setf_other _ _ this).trans (s.one id b hb)
  · rcases ids_old e' with ⟨_, e'⟩ | ⟨_, e'⟩
    · obtain ⟨h1, h2, h3⟩ := s.keep id b P e'
      refine ⟨h1, h2, fun o hs => ?_⟩
      rcases hs with hs | ⟨hb, _⟩
      · exact h3 o hs
      · exact (hu b hb).2 id (.inl h1)
    · cases e'
/-- A block that nobody reads or owns becomes a box. -/
theorem Sim.ext_box (s : Sim C h w) {t : TypeId} {ds : List D} {b0 : Nat} {vs : Array Value} (hg : w.heap[b0]? = some (.cells vs t (0, 0))) (r : RdL C w ds vs.toList) (h1 : ∀ u ∈ vs.toList, u.oneCell' = true) (hS : ∀ o, ¬ C.S b0 o) (hb0 : ∀ id, ¬ C.blk id b0) :
    ∃ C', Ev C w C' w ∧ Sim C' (h ++ [.box t ds]) w ∧ C'.bx h.length = some b0 ∧ (∀ b o, C'.S b o → C.S b o) ∧ ∀ id b, C'.blk id b → C.blk id b ∨ b = b0 := by
  obtain ⟨fb, fl⟩ := s.fresh
  let C' : Cx := { C with bx := setf C.bx h.length b0 }
  have hblk : ∀ id b, C'.blk id b → C.blk id b ∨ (id = h.length ∧ b = b0) := fun id b hb => by
    rcases hb with hb | hb
    · by_cases e : id = h.length
      · subst e
        have : some b0 = some b := (setf_same _ _ _).symm.trans hb
        exact .inr ⟨rfl, (Option.some.inj this).symm⟩
      · exact .inl (.inl ((setf_other _ _ e).symm.trans hb))
    · exact .inl (.inr hb)
  have f : Ev C w C' w := ⟨rfl, rfl, rfl, Nat.le_refl _, fun _ _ h => h, fun _ _ _ => rfl, fun id b hb => by
    have : id ≠ h.length := fun e => by subst e; rw [fb] at hb; cases hb
    exact (setf_other _ _ this).trans hb, fun _ u h => ⟨u, h, .inl rfl⟩⟩
  refine ⟨C', f, ⟨s.S, fun id t' ds' e => ?_, fun id e sz n e' => ?_, fun id b hb => ?_, fun id b hb => ?_, fun id u hu => ?_, fun id id' b hb hb' => ?_, fun id b hb => ?_, fun id b P e => ?_⟩, setf_same _ _ _, fun _ _ h => h, fun id b hb => (hblk id b hb).imp (fun h => h) (·.2)⟩
  · rcases ids_old e with ⟨_, e3⟩ | ⟨rfl, e3⟩
    · obtain ⟨b, vs', h2, h3, h4, h5, h6⟩ := s.box id t' ds' e3
      exact ⟨b, vs', f.bx id b h2, h3, h4.mono f, h5, h6⟩
    · cases e3
      exact ⟨b0, vs, setf_same _ _ _, hg, r.mono f, h1, hS⟩
  · rcases ids_old e' with ⟨_, e'⟩ | ⟨_, e'⟩
    · exact s.log id e sz n e'
    · cases e'
  · rcases hblk id b hb with h' | ⟨_, rfl⟩
    · exact s.lt id b h'
    · exact (Array.getElem?_eq_some_iff.1 hg).1
  · by_cases e : id = h.length
    · simp [e]
    · have := s.idb id b ((setf_other _ _ e).symm.trans hb)
      simp; omega
  · have := s.idl id u hu
    simp; omega
  · rcases hblk id b hb with h2 | ⟨rfl, rfl⟩ <;> rcases hblk id' _ hb' with h3 | ⟨rfl, e⟩
    · exact s.inj id id' b h2 h3
    · subst e; exact absurd h2 (hb0 id)
    · exact absurd h3 (hb0 id')
    · rfl
  · by_cases e : id = h.length
    · subst e; exact fl
    · exact s.one id b ((setf_other _ _ e).symm.trans hb)
  · rcases ids_old e with ⟨_, e⟩ | ⟨_, e⟩
    · obtain ⟨h2, h3, h4⟩ := s.keep id b P e
      exact ⟨f.bx id b h2, h3, h4⟩
    · cases e
theorem Sim.below (s : Sim C h w) {w' : World} (hb : Below w.heap.size w w') : Sim C h w' ∧ Fw C w C w' := by
  have f : Fw C w C w' := ⟨⟨hb.os, hb.tape, hb.output, hb.size, fun _ _ h => h, fun b o hs => hb.cell (p := ⟨b, o, none⟩) (s.S b o hs), fun _ _ h => h, fun _ u h => ⟨u, h, .inl rfl⟩⟩, fun b hlt _ => hb.block b hlt, fun id _ h _ => ⟨id, h⟩, fun _ _ h _ => .inl h⟩
  refine ⟨⟨s.S.mono f.toEv fun b o hs => Nat.lt_of_lt_of_le (s.S b o hs) hb.size, fun id t ds e => ?_, fun id e sz n e' => ?_, fun id b hb' => Nat.lt_of_lt_of_le (s.lt id b hb') hb.size, s.idb, s.idl, s.inj, s.one, fun id b P e => ?_⟩, f⟩
  · obtain ⟨b, vs, h1, h2, h3, h4, h5⟩ := s.box id t ds e
    exact ⟨b, vs, h1, (hb.block b (s.lt id b (.inl h1))).trans h2, h3.mono f.toEv, h4, h5⟩
  · obtain ⟨u, xs, h1, h2, h3⟩ := s.log id e sz n e'
    refine ⟨u, xs, h1, ?_, h3⟩
    refine h2.kept (row := none) ⟨hb.os, hb.tape, hb.output, hb.size, fun k hk _ => hb.block k hk⟩ ?_
    cases u.ownBlock <;> simp
  · obtain ⟨h1, ⟨x, h2, h3⟩, h4⟩ := s.keep id b P e
    exact ⟨h1, ⟨x, (hb.block b (s.lt id b (.inl h1))).trans h2, h3⟩, h4⟩
end
/-! ### What an operation of a head yields -/
inductive HD where
  | d (d : D)
  | fs (e sz : Nat) (ds : List D)
  | fb (t : TypeId) (ds : List D)
  deriving Inhabited
def HD.rawB : HD → Bool
  | .d (.raw _) => true
  | _ => false
def hdD : HD → D
  | .d d => d
  | .fs _ sz ds => .sl none sz ds
  | .fb _ _ => .any
/-- Z: the frozen blocks; F: its own. -/
def HRd (C : Cx) (w : World) (Z F : Nat → Prop) : HD → Value → Prop
  | .d d, v => Rd (CF C Z) w d v
  | .fs e sz ds, v => ∃ xs : List Value, (∀ b, v.ownBlock = some b → F b) ∧ w.ownsRow 0 e sz v ds.length xs ∧ RdE (CF C Z) w sz ds (fun j => xs[j]?)
  | .fb t ds, v => ∃ (b : Nat) (vs : Array Value), F b ∧ v = .pointer (some ⟨b, 0, none⟩) ∧ w.heap[b]? = some (.cells vs t (0, 0)) ∧ RdL (CF C Z) w ds vs.toList ∧ ∀ u ∈ vs.toList, u.oneCell' = true
def HD.isD : HD → Bool
  | .d _ => true
  | _ => false
section
variable {C : Cx} {h : H} {w : World}
theorem own_RdE {G : Nat → Prop} {e sz : Nat} {v : Value} {ds : List D} {xs : List Value} {C2 : Cx} (ho : w.ownsRow 0 e sz v ds.length xs) (hr : RdE (CF C G) w sz ds (fun j => xs[j]?)) (f : Ev (CF C G) w C2 w) (hS : ∀ b o, v.ownBlock = some b → o < ds.length * sz → C2.S b o) (htag : Option Nat)
    (ht : ∀ id, htag = some id → ∃ u, C2.lg id = some u ∧ ds.length ≤ lenV u ∧ (ds.length = lenV u → v = u)) : Rd C2 w (.sl htag sz ds) v := by
  obtain ⟨a, cap, rfl, h1, h2⟩ := ownsRow_form ho
  refine ⟨⟨a, cap, rfl, h1, h2⟩, fun h0 => ?_, ht⟩
  rcases ho.2 with ⟨h3, h4⟩ | ⟨g, cap', cur, h3, _, hg, _⟩
  · omega
  · simp at h3
    obtain ⟨rfl, rfl⟩ := h3
    refine ⟨g, 0, cap, rfl, fun i hi => by rw [Nat.zero_add]; exact hS g i rfl hi, ?_⟩
    refine RdE.mono f sz ds _ _ hr fun j hj => ?_
    have hlt : j < xs.length := by rw [ho.1]; exact hj
    have := ho.cells (g := g) rfl j _ (List.getElem?_eq_getElem hlt)
    rw [Addr.add_mid, Nat.zero_add] at this
    rw [Nat.zero_add, this, List.getElem?_eq_getElem hlt]
theorem hdD_rd {Z F : Nat → Prop} {hd : HD} {v : Value} (hr : HRd C w Z F hd v) : Rd (CF C (fun b => Z b ∨ F b)) w (hdD hd) v := by
  cases hd with
  | d d => exact Rd.mono (CF.ev fun _ h => .inl h) d v hr
  | fs e sz ds =>
    obtain ⟨xs, h2, h3, h4⟩ := hr
    exact own_RdE h3 h4 (CF.ev fun _ h => .inl h) (fun b o hb _ => .inr (.inr (h2 b hb))) none fun id e => by cases e
  | fb t ds => trivial
/-- It stands while all that it reads stands. -/
theorem HRd.keep {B : Nat} {Z Z' F : Nat → Prop} {w' : World} {hd : HD} {v : Value} (hr : HRd C w Z F hd v) (hC : ∀ b o, C.S b o → b < B) (hBw : B ≤ w.heap.size) (hZ : ∀ b, Z b → b < w.heap.size) (hF : hd.isD = true ∨ ∀ b, F b → b < w.heap.size) (hZZ : ∀ b, Z b → Z' b) (hk : Keeps B (fun b => Z b ∨ (hd.isD = false ∧ F b)) w w') : HRd C w' Z' F hd v := by
  have ev : Ev (CF C Z) w (CF C Z') w' := ⟨hk.os, hk.tape, hk.output, hk.size, fun b o h => h.imp id (hZZ b), fun b o hs => World.cell?_of_block (a := ⟨b, o, none⟩) (hs.elim (fun h => hk.block b (Nat.lt_of_lt_of_le (hC b o h) hBw) (.inl (hC b o h))) fun h => hk.block b (hZ b h) (.inr (.inl h))), fun _ _ h => h, fun _ u h => ⟨u, h, .inl rfl⟩⟩
  cases hd with
  | d d => exact Rd.mono ev d v hr
  | fs e sz ds =>
    obtain ⟨xs, h2, h3, h4⟩ := hr
    have hF' : ∀ b, F b → b < w.heap.size := hF.resolve_left (by simp [HD.isD])
    refine ⟨xs, h2, ⟨h3.1, ?_⟩, RdE.mono ev sz ds _ _ h4 fun _ _ => rfl⟩
    rcases h3.2 with hn | ⟨g, cap, cur, rfl, hb, hgg, rest⟩
    · exact .inl hn
    · exact .inr ⟨g, cap, cur, rfl, hb, (hk.block g (hF' g (h2 g rfl)) (.inr (.inr ⟨rfl, h2 g rfl⟩))).trans hgg, rest⟩
  | fb t ds =>
    obtain ⟨b, vs, h2, h4, h5, h6, h7⟩ := hr
    have hF' : ∀ b, F b → b < w.heap.size := hF.resolve_left (by simp [HD.isD])
    exact ⟨b, vs, h2, h4, (hk.block b (hF' b h2) (.inr (.inr ⟨rfl, h2⟩))).trans h5, RdL.mono ev ds _ h6, h7⟩
end
end Go.Proofs.Ytbfmaicoefefaaa.Pv
/-! ## Part 12 -/
namespace Go.Proofs.Ytbfmaicoefefaaa.Pv
open Go Go.RowKit
section
variable {P : Program}
def isAppend : Op → Bool
  | .call { callee := .builtin .append, .. } => true
  | _ => false
def isStoreOp : Op → Bool
  | .store .. => true
  | _ => false
/-- Whose value it is that a result speaks of: a store's is its address. -/
def ptrOf (o : Oper) (a : Act) (v : Value) : Value :=
  match o.op with
  | .store _ x _ => a.eval x
  | _ => v
def tmpNe : Operand → Operand → Bool
  | .tmp s, .tmp t => s != t
  | _, _ => true
def hAppend (P : Program) (t tx : TypeId) (s : HD) (x : D) : Option HD :=
  match elemP P t with
  | some (e, inf) =>
    match srcD P tx inf.size x with
    | some ys =>
      if 0 < inf.size ∧ inf.zero.map (·.cells.size) = some inf.size then
        match s with
        | .d (.raw (.slice none 0 0)) => if roomy ys.length inf.bytes = true then some (.fs e inf.size ys) else none
        | .fs e' sz ds => if e' = e ∧ sz = inf.size ∧ roomy (ds.length + ys.length) inf.bytes = true then some (.fs e inf.size (ds ++ ys)) else none
        | _ => none
      else none
    | none => none
  | none => none
def hop (P : Program) (penv : FuncId → List D → Option D) (ρ : Operand → HD) (o : Oper) (h : H) : Option HD :=
  match o.op with
  | .alloc t => match zeroD P t with
    | some ds => some (.fb t ds)
    | none => none
  | .box t x => match cellsD (hdD (ρ x)) with
    | some ds => if ds.all leafD = true then some (.fb t ds) else none
    | none => none
  | .buildSlice t n parts => match buildRow P t n (pairD (fun x => hdD (ρ x)) parts) with
    | some (e, sz, l) => if leafSize P e = true then some (.fs e sz l) else none
    | none => none
  | .store t x y => match ρ x, cellsD (hdD (ρ y)), P.info? t with
    | .fb bt ds, some es, some i => if es.length = i.size ∧ es.length ≤ ds.length ∧ es.all leafD = true ∧ tmpNe x y = true then some (.fb bt (splice ds 0 es)) else none
    | _, _, _ => none
  | .call c => match c.callee with
    | .builtin .append => if c.args.size = 2 ∧ c.argTypes.size = 2 ∧ tmpNe (c.args.getD 0 (.const undef)) (c.args.getD 1 (.const undef)) = true then hAppend P (c.argTypes.getD 0 0) (c.argTypes.getD 1 0) (ρ (c.args.getD 0 (.const undef))) (hdD (ρ (c.args.getD 1 (.const undef)))) else none
    | .value f => match fnD (hdD (ρ f)) with
      | some (k, first, cap) => (pcall penv k (first ++ c.args.toList.map (fun x => hdD (ρ x)) ++ cap)).map HD.d
      | none => none
    | _ => (sop P (fun x => hdD (ρ x)) o h).map HD.d
  | _ => (sop P (fun x => hdD (ρ x)) o h).map HD.d
theorem HRd.wider {C : Cx} {w : World} {Z F G : Nat → Prop} (hFG : ∀ b, F b → G b) {hd : HD} {v : Value} (hr : HRd C w Z F hd v) : HRd C w Z G hd v := by
  cases hd with
  | d d => exact hr
  | fs e sz ds =>
    obtain ⟨xs, h2, h3, h4⟩ := hr
    exact ⟨xs, fun b hb => hFG b (h2 b hb), h3, h4⟩
  | fb t ds =>
    obtain ⟨b, vs, h2, h3⟩ := hr
    exact ⟨b, vs, hFG b h2, h3⟩
theorem growM_same {w : World} {M : Nat → Prop} : GrowM w w M := ⟨rfl, rfl, rfl, Nat.le_refl _, fun _ _ _ => rfl⟩
theorem GrowM.of_grownBy {w w' : World} {row : Option Nat} {M : Nat → Prop} (h : w.grownBy w' row) (hm : ∀ b, row = some b → M b) : GrowM w w' M :=
  ⟨h.os, h.tape, h.output, h.size, fun b hb hn => h.block b hb fun e => hn (hm b e.symm)⟩
theorem hop_sound {penv : FuncId → List D → Option D} (hp : PureOk P penv) {C : Cx} {h : H} {w : World} {a : Act} {Z Fi : Nat → Prop} (s : Sim (CF C (fun b => Z b ∨ Fi b)) h w) (hC : ∀ b o, C.S b o → b < w.heap.size) (hZ : ∀ b, Z b → b < w.heap.size) (hFi : ∀ b, Fi b → b < w.heap.size ∧ ¬ Z b) (hCF : ∀ b o, C.S b o → ¬ Z b ∧ ¬ Fi b)
    {ρ : Operand → HD} {Fx : Operand → Nat → Prop} (hr : ∀ x, HRd C w Z (Fx x) (ρ x) (a.eval x)) (hsub : ∀ x b, Fx x b → Fi b) (hap : ∀ x y, tmpNe x y = true → ∀ b, Fx x b → Fx y b → False)
    {o : Oper} {hd : HD} (e : hop P penv ρ o h = some hd) {K : Act → World → Prop} {Q : Exit → Act → World → Prop}
    (hk : ∀ v w' (Z' F' : Nat → Prop), GrowM w w' (fun b => (isAppend o.op || isStoreOp o.op) = true ∧ Fi b) → (∀ b, Z b → Z' b) → (∀ b, Z' b → Z b ∨ Fi b ∨ (w.heap.size ≤ b ∧ b < w'.heap.size)) → (∀ b, F' b → (Fi b ∨ (w.heap.size ≤ b ∧ b < w'.heap.size)) ∧ ¬ Z' b) → HRd C w' Z' F' hd (ptrOf o a v) → K (a.put o.dst v) w') : o.wp P a w K Q := by
  have hreads : Reads (CF C (fun b => Z b ∨ Fi b)) w (fun x => hdD (ρ x)) a.eval := fun x => Rd.mono (CF.ev fun b hb => hb.imp id (hsub x b)) _ _ (hdD_rd (hr x))
  have noSt : isStoreOp o.op = false → ∀ v, ptrOf o a v = v := fun hs v => by
    unfold ptrOf
    split
    · rename_i hop; rw [hop] at hs; cases hs
    · rfl
  have hk0 : isStoreOp o.op = false → ∀ v w' (Z' F' : Nat → Prop), GrowM w w' (fun b => (isAppend o.op || isStoreOp o.op) = true ∧ Fi b) → (∀ b, Z b → Z' b) → (∀ b, Z' b → Z b ∨ Fi b ∨ (w.heap.size ≤ b ∧ b < w'.heap.size)) → (∀ b, F' b → (Fi b ∨ (w.heap.size ≤ b ∧ b < w'.heap.size)) ∧ ¬ Z' b) → HRd C w' Z' F' hd v → K (a.put o.dst v) w' := fun hs v w' Z' F' h1 h2 h3 h4 h5 => hk v w' Z' F' h1 h2 h3 h4 (by rw [noSt hs]; exact h5)
  have still : (∀ t x y, o.op ≠ .store t x y) → (sop P (fun x => hdD (ρ x)) o h).map HD.d = some hd → o.wp P a w K Q := fun hns e1 => by
    rw [Option.map_eq_some_iff] at e1
    obtain ⟨d, e2, rfl⟩ := e1
    obtain ⟨v, h1, h2⟩ := sop_sound s hreads e2
    refine wp_of_value h1 (hk v w (fun b => Z b ∨ Fi b) (fun _ => False) growM_same (fun b hb => .inl hb) (fun b hb => hb.imp id .inl) (fun b hb => hb.elim) ?_)
    rw [noSt (by unfold isStoreOp; split <;> first | rfl | (rename_i hop; exact absurd hop (hns _ _ _)))]
    exact h2
  have hZF : ∀ b, (Z b ∨ Fi b) → b < w.heap.size := fun b hb => hb.elim (hZ b) fun h => (hFi b h).1
  have fresh : ∀ (o' : Obj), Ev (CF C (fun b => Z b ∨ Fi b)) w (CF C (fun b => Z b ∨ Fi b)) (w.alloc o') := fun o' => ⟨rfl, rfl, rfl, by simp, fun _ _ h => h, fun b o hs => World.cell?_of_block (a := ⟨b, o, none⟩) (Below.heap_alloc w o' b (hs.elim (hC b o) (hZF b))), fun _ _ h => h, fun _ u h => ⟨u, h, .inl rfl⟩⟩
  have growA : ∀ (o' : Obj), GrowM w (w.alloc o') (fun b => (isAppend o.op || isStoreOp o.op) = true ∧ Fi b) := fun o' => ⟨rfl, rfl, rfl, by simp, fun b hb _ => Below.heap_alloc w o' b hb⟩
  have newF : ∀ (o' : Obj), ∀ b, b = w.heap.size → (Fi b ∨ (w.heap.size ≤ b ∧ b < (w.alloc o').heap.size)) ∧ ¬ (Z b ∨ Fi b) := fun o' b e => ⟨.inr (by subst e; simp), fun hb => by have := hZF b hb; omega⟩
  unfold hop at e
  split at e
  · rename_i t ho
    split at e
    · rename_i ds hz
      cases e
      obtain ⟨i, z, h1, h2, h3, rfl⟩ := zeroD_some hz
      refine wp_of_value (v := .pointer (some ⟨w.heap.size, 0, none⟩)) (w' := w.alloc (.cells z.cells t)) ?_ (hk0 (by rw [ho]; rfl) _ _ (fun b => Z b ∨ Fi b) (fun b => b = w.heap.size) (growA _) (fun b hb => .inl hb) (fun b hb => hb.imp id .inl) (newF _) ?_)
      · simp [execOp, ho, Instr.alloc, zeroValue, typeInfo, h1, h2, newVar, newRow]
      · exact ⟨w.heap.size, z.cells, rfl, rfl, heap_alloc_new w _, RdL.raws _ _ _, h3⟩
    · cases e
  · rename_i t x ho
    split at e
    · rename_i ds hc
      split at e
      · rename_i hl
        cases e
        have hcs := (hreads x).cells hc
        refine wp_of_value (v := .pointer (some ⟨w.heap.size, 0, none⟩)) (w' := w.alloc (.cells (a.eval x).cells t)) ?_ (hk0 (by rw [ho]; rfl) _ _ (fun b => Z b ∨ Fi b) (fun b => b = w.heap.size) (growA _) (fun b hb => .inl hb) (fun b hb => hb.imp id .inl) (newF _) ?_)
        · simp [execOp, ho, Instr.box, newVar, newRow]
        · exact ⟨w.heap.size, (a.eval x).cells, rfl, rfl, heap_alloc_new w _, hcs.mono (fresh _), hcs.leaves hl⟩
      · cases e
    · cases e
  · rename_i t n parts ho
    split at e
    · rename_i el sz l hb
      split at e
      · rename_i hls
        cases e
        obtain ⟨cv, k1, k2, k3, k4, k5⟩ := buildRow_core (hreads.pairs parts) hb (fun i dd h1 h2 h3 => by
          unfold leafSize at hls
          rw [h1, h2] at hls
          simp only [Bool.or_eq_true, beq_iff_eq] at hls
          rcases hls with hls | hls
          · rw [h3] at hls; cases hls
          · exact hls)
        refine wp_of_value (v := .slice (some ⟨w.heap.size, 0, none⟩) n n) (w' := w.alloc (.cells cv el)) ?_ (hk0 (by rw [ho]; rfl) _ _ (fun b => Z b ∨ Fi b) (fun b => b = w.heap.size) (growA _) (fun b hb => .inl hb) (fun b hb => hb.imp id .inl) (newF _) ?_)
        · simp only [execOp, ho, Sem.run_bind, k1]
          rfl
        · refine ⟨cv.toList, fun b hb => ?_, ⟨by simpa [k4] using k2, .inr ⟨w.heap.size, n, cv, by rw [k4], Nat.zero_le _, heap_alloc_new w _, by rw [k4]; exact Nat.le_refl _, k3, k2, ?_⟩⟩, ?_⟩
          · simp [Value.ownBlock] at hb
            exact hb.symm
          · rw [k4, List.take_of_length_le (by simp [k2])]
          · refine RdE.mono (fresh _) sz l _ _ k5 fun j _ => ?_
            rw [Array.getElem?_toList]
      · cases e
    · cases e
  · rename_i t x y ho
    split at e
    · rename_i bt ds es i hx hy hi
      split at e
      · rename_i hcond
        obtain ⟨hl1, hl2, hleaf, hne⟩ := hcond
        cases e
        have hsd := hr x
        rw [hx] at hsd
        obtain ⟨b0, vs, g2, g4, g5, g6, g7⟩ := hsd
        have hyd : RdL (CF C (fun b => Z b ∨ Fx y b)) w es (a.eval y).cells.toList := (hdD_rd (hr y)).cells hy
        have hl := hyd.len
        have hone := hyd.leaves hleaf
        have hdl := g6.len
        have hrun := run_storeCells_at P b0 0 bt (a.eval y).cells.toList 0 vs w g5 (by simp at hl hdl ⊢; omega) hone
        rw [splice_toArray] at hrun
        have hst : (execOp a.eval o).run P w = .ok .skip (w.setRow b0 (splice vs.toList 0 (a.eval y).cells.toList).toArray) := by
          have hsz : (a.eval y).cells.size = i.size := by simp at hl; omega
          simp only [execOp, ho, Sem.run_bind, Instr.storeAt, g4, Instr.sureAddr, Sem.run_pure, Result.andThen_ok, storeVar, sizeOf, typeInfo, run_program, hi]
          rw [if_neg (by omega), hrun]
          rfl
        have hb0 : Fi b0 := hsub x b0 g2
        have hnG : ∀ b, (Z b ∨ Fx y b) → b ≠ b0 := fun b hb e => by
          subst e
          rcases hb with hb | hb
          · exact (hFi b hb0).2 hb
          · exact hap x y hne b g2 hb
        have ev : Ev (CF C (fun b => Z b ∨ Fx y b)) w (CF C (fun b => Z b ∨ Fx y b)) (w.setRow b0 (splice vs.toList 0 (a.eval y).cells.toList).toArray) := ⟨rfl, rfl, rfl, by simp, fun _ _ h => h, fun b o' hs => by
          refine cell_setRow_other _ _ _ _ ?_
          rcases hs with hs | hs
          · exact fun e => (hCF b o' hs).2 (by rw [show b = b0 from e]; exact hb0)
          · exact hnG b hs, fun _ _ h => h, fun _ u h => ⟨u, h, .inl rfl⟩⟩
        unfold Oper.wp
        rw [hst]
        refine hk undef _ (fun b => Z b ∨ Fx y b) (fun b => b = b0) ⟨rfl, rfl, rfl, by simp, fun b _ hn => setRow_other _ _ _ _ fun e => hn ⟨by rw [ho]; rfl, by rw [show b = b0 from e]; exact hb0⟩⟩ (fun b hb => .inl hb) (fun b hb => hb.imp id fun h => .inl (hsub y b h)) (fun b hb => ⟨.inl (by rw [hb]; exact hb0), fun hz => hnG b hz hb⟩) ?_
        have hpt : ptrOf o a undef = .pointer (some ⟨b0, 0, none⟩) := by unfold ptrOf; rw [ho]; exact g4
        rw [hpt]
        refine ⟨b0, _, rfl, rfl, setRow_heap w b0 vs _ bt (0, 0) g5, ?_, fun u hu => ?_⟩
        · have e1 := (g6.mono (CF.ev (C := C) (w := w) (F := Z) (G := fun b => Z b ∨ Fx y b) fun _ h => .inl h)).mono ev
          have e2 := hyd.mono ev
          simpa using e1.splice e2 0
        · simp only [splice, List.mem_append] at hu
          rcases hu with (hu | hu) | hu
          · exact g7 u (List.mem_of_mem_take hu)
          · exact hone u hu
          · exact g7 u (List.mem_of_mem_drop hu)
      · cases e
    · cases e
  · rename_i c ho
    have hns : isStoreOp o.op = false := by rw [ho]; rfl
    obtain ⟨callee, args, argTypes⟩ := c
    dsimp only at e
    split at e
    · split at e
      · rename_i hsz
        have hap' := hap _ _ hsz.2.2
        have hsd := hr (args.getD 0 (.const undef))
        have hxd := hdD_rd (hr (args.getD 1 (.const undef)))
        have hFs := hsub (args.getD 0 (.const undef))
        have hFxs := hsub (args.getD 1 (.const undef))
        generalize Fx (args.getD 0 (.const undef)) = Fs at hap' hsd hFs
        generalize Fx (args.getD 1 (.const undef)) = Fy at hap' hxd hFxs
        unfold hAppend at e
        split at e
        · rename_i el inf hel
          obtain ⟨h1, h2⟩ := elemP_some hel
          split at e
          · rename_i ys hsrc
            split at e
            · rename_i hc
              obtain ⟨hpos, hz'⟩ := hc
              rw [Option.map_eq_some_iff] at hz'
              obtain ⟨z, hz, hzs⟩ := hz'
              obtain ⟨news, k1, k2⟩ := srcD_sound hxd hsrc
              have happ : isAppend o.op = true := by rw [ho]; rfl
              have hrun : ∀ r, (Builtin.append_ #[argTypes.getD 0 0, argTypes.getD 1 0] o.type #[a.eval (args.getD 0 (.const undef)), a.eval (args.getD 1 (.const undef))]).run P w = r → (execOp a.eval o).run P w = (match r with | .ok v w' => .ok (.value v) w' | .halt x w' => .halt x w') := fun r hr => by
                have ho' := ho
                rw [size_two (.const undef) hsz.1, size_two 0 hsz.2.1] at ho'
                simp only [execOp, ho', Sem.run_bind, resolve, invoke, builtin, Sem.run_pure, Result.andThen_ok, List.map_toArray, List.map_cons, List.map_nil, hr]
                cases r <;> rfl
              -- the row, whatever it was
              have main : ∀ (ds : List D) (u : Value) (xs : List Value), a.eval (args.getD 0 (.const undef)) = u → (∀ b, u.ownBlock = some b → Fs b) → w.ownsRow 0 el inf.size u ds.length xs → RdE (CF C Z) w inf.size ds (fun j => xs[j]?) → roomy (ds.length + ys.length) inf.bytes = true → hd = .fs el inf.size (ds ++ ys) → o.wp P a w K Q := by
                intro ds u xs hu hown ho2 hds hro hhd
                subst hhd
                obtain ⟨r1, r2⟩ := roomy_some hro
                have hng0 : ∀ b, (Z b ∨ Fy b) → u.ownBlock ≠ some b := fun b hb e => by
                  rcases hb with hb | hb
                  · exact (hFi b (hFs b (hown b e))).2 hb
                  · exact hap' b (hown b e) hb
                have hlt0 : ∀ b, (Z b ∨ Fy b) → b < w.heap.size := fun b hb => hb.elim (hZ b) fun h => (hFi b (hFxs b h)).1
                have hds' : RdE (CF C (fun b => Z b ∨ Fy b)) w inf.size ds (fun j => xs[j]?) := RdE.mono (CF.ev fun _ h => .inl h) inf.size ds _ _ hds fun _ _ => rfl
                by_cases hm : 0 < ys.length
                · obtain ⟨v, w', g, q1, q2, q3, q4, q5, q6, q7⟩ := run_append_src (P := P) (argTypes.getD 0 0) (argTypes.getD 1 0) o.type el inf z h1 h2 hz hzs hpos ho2 k1 hm r1 r2
                  rw [← hu] at q1
                  have hng : ∀ b, (Z b ∨ Fy b) → b ≠ g := fun b hb e => by
                    subst e
                    rcases q5 with q5 | rfl
                    · exact hng0 _ hb q5
                    · exact Nat.lt_irrefl _ (hlt0 _ hb)
                  have ev : Ev (CF C (fun b => Z b ∨ Fy b)) w (CF C (fun b => Z b ∨ Fy b)) w' := ⟨q3.os, q3.tape, q3.output, q3.size, fun _ _ h => h, fun b o hs => by
                    refine World.cell?_of_block (a := ⟨b, o, none⟩) ?_
                    rcases hs with hs | hs
                    · exact q3.block b (hC b o hs) fun e => (hCF b o hs).2 (hFs b (hown b e.symm))
                    · exact q3.block b (hlt0 b hs) fun e => hng0 b hs e.symm, fun _ _ h => h, fun _ u h => ⟨u, h, .inl rfl⟩⟩
                  refine wp_of_value (hrun _ q1) (hk0 hns v w' (fun b => Z b ∨ Fy b) (fun b => b = g) (GrowM.of_grownBy q3 fun b hb => ⟨by rw [happ]; rfl, hFs b (hown b hb)⟩) (fun b hb => .inl hb) (fun b hb => hb.imp id fun h => .inl (hFxs b h)) (fun b hb => ⟨?_, fun hz => hng b hz hb⟩) ?_)
                  · subst hb
                    rcases q5 with q5 | rfl
                    · exact .inl (hFs _ (hown _ q5))
                    · exact .inr ⟨Nat.le_refl _, (q2.lt _ q4).2⟩
                  · refine ⟨xs ++ news, fun b hb => ?_, by rw [List.length_append]; exact q2, ?_⟩
                    · rw [q4] at hb
                      cases hb
                      rfl
                    · have e1 : RdE (CF C (fun b => Z b ∨ Fy b)) w' inf.size ds (fun j => xs[j]?) := RdE.mono ev inf.size ds _ _ hds' fun _ _ => rfl
                      have e2 : RdE (CF C (fun b => Z b ∨ Fy b)) w' inf.size ys (fun j => news[j]?) := RdE.mono ev inf.size ys _ _ k2 fun _ _ => rfl
                      refine RdE.app e1 e2 (fun j hj => ?_) (fun j hj => ?_)
                      · rw [List.getElem?_append_left (by rw [ho2.1]; exact hj)]
                      · rw [List.getElem?_append_right (by rw [ho2.1]; omega), ho2.1]
                        congr 1
                        omega
                · have hy : ys = [] := List.eq_nil_of_length_eq_zero (by omega)
                  subst hy
                  have hnews : news = [] := List.eq_nil_of_length_eq_zero (by have := k1.newsLen; simpa using this)
                  subst hnews
                  obtain ⟨ad, cap, rfl, j1, j2⟩ := ownsRow_form ho2
                  have q1 := run_append_nothing (P := P) w (argTypes.getD 0 0) (argTypes.getD 1 0) o.type el inf h1 h2 ad _ cap j1 _ k1
                  rw [← hu] at q1
                  refine wp_of_value (hrun _ q1) (hk0 hns _ w Z Fs growM_same (fun b hb => hb) (fun b hb => .inl hb) (fun b hb => ⟨.inl (hFs b hb), (hFi b (hFs b hb)).2⟩) ?_)
                  rw [List.append_nil, hu]
                  exact ⟨xs, hown, ho2, hds⟩
              split at e
              · rename_i hsnil
                split at e
                · rename_i hro
                  cases e
                  rw [hsnil] at hsd
                  simp only [HRd, Rd] at hsd
                  exact main [] (.slice none 0 0) [] hsd (fun b hb => by simp [Value.ownBlock] at hb) (World.ownsRow_nil _ _ _ _) trivial (by simpa using hro) rfl
                · cases e
              · rename_i e' sz ds hsfs
                split at e
                · rename_i hc2
                  obtain ⟨rfl, rfl, hro⟩ := hc2
                  cases e
                  rw [hsfs] at hsd
                  obtain ⟨xs, j2, j3, j4⟩ := hsd
                  exact main ds _ xs rfl j2 j3 j4 hro rfl
                · cases e
              · cases e
            · cases e
          · cases e
        · cases e
      · cases e
    · rename_i f
      split at e
      · rename_i k first cap hf
        rw [Option.map_eq_some_iff] at e
        obtain ⟨d, e, rfl⟩ := e
        unfold pcall at e
        split at e
        · rename_i es hes
          split at e
          · rename_i d' hd'
            have hfr : Rd (CF C (fun b => Z b ∨ Fi b)) w (hdD (ρ f)) (a.eval f) := hreads f
            have hargs : RdL (CF C (fun b => Z b ∨ Fi b)) w (first ++ args.toList.map (fun x => hdD (ρ x)) ++ cap) ((match a.eval f with | .func _ x y => x.toList | _ => []) ++ args.toList.map a.eval ++ (match a.eval f with | .func _ x y => y.toList | _ => [])) ∧ ∃ x y, a.eval f = .func (.func k) x y := by
              unfold fnD at hf
              split at hf
              · rename_i k' x y hv
                cases hf
                rw [hv] at hfr
                simp only [Rd] at hfr
                rw [hfr]
                exact ⟨((RdL.raws _ w _).app (hreads.map _)).app (RdL.raws _ w _), _, _, rfl⟩
              · rename_i k' x y hv
                cases hf
                rw [hv] at hfr
                simp only [Rd] at hfr
                obtain ⟨vs, us, e1, r1, r2⟩ := hfr
                rw [e1]
                exact ⟨(r1.app (hreads.map _)).app r2, _, _, rfl⟩
              · cases hf
            obtain ⟨hargs, x, y, hev⟩ := hargs
            rw [hev] at hargs
            have hret := hp.ok k es d' hd' (CF C (fun b => Z b ∨ Fi b)).S w _ s.S (pureL_rd (C := CF C (fun b => Z b ∨ Fi b)) (C' := bare (CF C (fun b => Z b ∨ Fi b)).S) (fun _ _ h => h) _ hes hargs)
            have hrun : (execOp a.eval o).run P w = .ok (.enter k ((x.toList ++ args.toList.map a.eval ++ y.toList).toArray)) w := by
              simp only [execOp, ho, Sem.run_bind, resolve, hev, Deferred.ofValue, Sem.run_pure, Result.andThen_ok, invoke]
              rw [callable_run (hp.can k es d' hd')]
              congr 2
              apply Array.ext'
              simp
            unfold Oper.wp
            rw [hrun]
            refine Calls.mono hret ?_
            rintro e' w' ⟨v, S', rfl, j1, j2, j3, j4⟩
            refine hk0 hns v w' (fun b => (Z b ∨ Fi b) ∨ (w.heap.size ≤ b ∧ b < w'.heap.size)) (fun _ => False) (GrowM.of_below j1) (fun b hb => .inl (.inl hb)) (fun b hb => ?_) (fun b hb => hb.elim) ?_
            · rcases hb with (hb | hb) | hb
              · exact .inl hb
              · exact .inr (.inl hb)
              · exact .inr (.inr hb)
            refine pureD_rd (C := bare S') (C' := CF C (fun b => (Z b ∨ Fi b) ∨ (w.heap.size ≤ b ∧ b < w'.heap.size))) (fun b o hs => ?_) d' e j4
            have hlt := (j3 b o hs).1
            rcases Nat.lt_or_ge b w.heap.size with hb | hb
            · rcases (j3 b o hs).2 hb with h' | h'
              · exact Or.inl h'
              · exact Or.inr (Or.inl h')
            · exact Or.inr (Or.inr ⟨hb, hlt⟩)
          · cases e
        · cases e
      · cases e
    · exact still (fun t x y h => by rw [ho] at h; cases h) e
  · rename_i hnst _
    exact still (fun t x y h => hnst t x y h) e
end
end Go.Proofs.Ytbfmaicoefefaaa.Pv
/-! ## Part 13 -/
namespace Go.Proofs.Ytbfmaicoefefaaa.Pv
open Go Go.RowKit
section
variable {P : Program}
def dstAt (l : List Oper) (i : Nat) : Option Tmp := (l[i]?).bind (·.dst)
def dstIx (l : List Oper) (t : Tmp) : Nat → Option Nat
  | 0 => none
  | n + 1 => match dstIx l t n with
    | some k => some k
    | none => if dstAt l n = some t then some n else none
theorem dstIx_some {l : List Oper} {t : Tmp} : ∀ {n k : Nat}, dstIx l t n = some k → k < n ∧ dstAt l k = some t
  | n + 1, k, e => by
    simp only [dstIx] at e
    split at e
    · rename_i k' h
      cases e
      obtain ⟨h1, h2⟩ := dstIx_some h
      exact ⟨by omega, h2⟩
    · split at e
      · rename_i h
        cases e
        exact ⟨Nat.lt_succ_self _, h⟩
      · cases e
theorem dstIx_none {l : List Oper} {t : Tmp} : ∀ {n : Nat}, dstIx l t n = none → ∀ k, k < n → dstAt l k ≠ some t
  | 0, _, k, hk => absurd hk (Nat.not_lt_zero _)
  | n + 1, e, k, hk => by
    simp only [dstIx] at e
    split at e
    · cases e
    · rename_i h
      split at e
      · cases e
      · rename_i h2
        by_cases hkn : k = n
        · subst hkn; exact h2
        · exact dstIx_none h k (by omega)
def depsOf (l : List Oper) (n : Nat) (o : Oper) : List Nat := o.op.operands.toList.filterMap fun | .tmp t => dstIx l t n | _ => none
def hval (l : List Oper) (n : Nat) (ts : List D) (hs : List HD) (o : Oper) : Operand → HD
  | .tmp t => match dstIx l t n with
    | some k => if (depsOf l n o).contains k = true then hs.getD k (.d .any) else .d .any
    | none => .d (ts.getD t .any)
  | x => .d (dv ts x)
def hwanted (l : List Oper) (hs : List HD) (o : Oper) : Option Bool :=
  match o.guard with
  | none => some true
  | some (j, want) => match dstAt l j, hs[j]? with
    | some _, some (.d (.raw (.bool b))) => some (b == want)
    | some _, some (.d (.raw (.tuple _))) => some false
    | _, _ => none
def hstep (P : Program) (penv : FuncId → List D → Option D) (l : List Oper) (n : Nat) (ts : List D) (h : H) (hs : List HD) (o : Oper) : Option HD :=
  match hwanted l hs o with
  | some true => hop P penv (hval l n ts hs o) o h
  | some false => some (.d (.raw undef))
  | none => none
def hrun (P : Program) (penv : FuncId → List D → Option D) (l : List Oper) (n : Nat) (ts : List D) (h : H) : Nat → Option (List HD)
  | 0 => some []
  | i + 1 => match hrun P penv l n ts h i, l[i]? with
    | some hs, some o => match hstep P penv l n ts h hs o with
      | some d => some (hs ++ [d])
      | none => none
    | _, _ => none
theorem hrun_spec {penv : FuncId → List D → Option D} {l : List Oper} {n : Nat} {ts : List D} {h : H} : ∀ {m : Nat} {hs : List HD}, hrun P penv l n ts h m = some hs → hs.length = m ∧ ∀ i, i < m → ∃ o d, l[i]? = some o ∧ hs[i]? = some d ∧ hstep P penv l n ts h (hs.take i) o = some d
  | 0, hs, e => by simp only [hrun, Option.some.injEq] at e; subst e; exact ⟨rfl, fun i hi => absurd hi (Nat.not_lt_zero _)⟩
  | m + 1, hs, e => by
    simp only [hrun] at e
    split at e
    · rename_i hs' o h1 h2
      split at e
      · rename_i d h3
        cases e
        obtain ⟨k1, k2⟩ := hrun_spec h1
        refine ⟨by simp [k1], fun i hi => ?_⟩
        by_cases him : i < m
        · obtain ⟨o', d', j1, j2, j3⟩ := k2 i him
          refine ⟨o', d', j1, by rw [List.getElem?_append_left (by omega)]; exact j2, ?_⟩
          rw [List.take_append_of_le_length (by omega)]
          exact j3
        · have : i = m := by omega
          subst this
          refine ⟨o, d, h2, by rw [List.getElem?_append_right (by omega), k1]; simp, ?_⟩
          rw [List.take_append_of_le_length (by omega), List.take_of_length_le (by omega)]
          exact h3
      · cases e
    · cases e
def consOf (l : List Oper) (n : Nat) (hs : List HD) (i : Nat) : List Nat :=
  match l[i]? with
  | some o => (depsOf l n o).filter fun k => !(hs.getD k (.d .any)).isD
  | none => []
def muOf (l : List Oper) (i : Nat) : Bool :=
  match l[i]? with
  | some o => isAppend o.op || isStoreOp o.op
  | none => false
/-- Whose pointer it is: a store speaks of the block that another operation has made. -/
def ptrIx (l : List Oper) (n i : Nat) : Nat :=
  match l[i]? with
  | some o => match o.op with
    | .store _ (.tmp t) _ => match dstIx l t n with
      | some k => k
      | none => i
    | _ => i
  | none => i
def storeB (l : List Oper) (n : Nat) : Bool :=
  (List.range n).all fun i => match l[i]? with
    | some o => !isStoreOp o.op || (o.dst.isNone && decide (ptrIx l n i < i))
    | none => true
def waitsB (l : List Oper) (n : Nat) : Bool :=
  (List.range n).all fun i => match l[i]? with
    | some o => (depsOf l n o).all (fun k => waits l.toArray i k) && (match o.guard with | some (j, _) => decide (j < n) && waits l.toArray i j | none => true)
    | none => true
def deadB (l : List Oper) (n : Nat) (hs : List HD) (i : Nat) : Bool := (List.range n).any fun c => (consOf l n hs c).contains i
def hfin (l : List Oper) (n : Nat) (hs : List HD) (dead : Nat → Bool) : Nat → List D → H → List D × H
  | 0, ts, h => (ts, h)
  | i + 1, ts, h =>
    let r := hfin l n hs dead i ts h
    match hs.getD i (.d .any) with
    | .d d => (putD r.1 (dstAt l i) d, r.2)
    | .fs e sz ds => if dead i = true then (putD r.1 (dstAt l i) .any, r.2) else (putD r.1 (dstAt l i) (.sl (some r.2.length) sz ds), r.2 ++ [.log e sz ds.length])
    | .fb t ds => if dead i = true then (putD r.1 (dstAt l i) .any, r.2) else (putD r.1 (dstAt l (ptrIx l n i)) (.bx r.2.length 0), r.2 ++ [.box t ds])
def findHead (l : List Oper) : Nat → Nat → Option Nat
  | 0, _ => none
  | f + 1, n => if headB .any l.toArray n = true then some n else findHead l f (n + 1)
def staticW (l : List Oper) (n m : Nat) (hs : List HD) : Bool :=
  dstsB l.toArray n m && (waitsB l n && storeB l n) && consB l.toArray n (consOf l n hs)
def staticB (l : List Oper) (n m : Nat) (hs : List HD) : Bool :=
  headB .any l.toArray n && dstsB l.toArray n m && (waitsB l n && storeB l n) && consB l.toArray n (consOf l n hs)
def adraw (P : Program) (call : FuncId → List D → H → Option (D × H)) (penv : FuncId → List D → Option D) (l : List Oper) (ts : List D) (h : H) : Option (List D × H) :=
  match findHead l (l.length + 1) 0 with
  | some n => match hrun P penv l n ts h n with
    | some hs => if staticB l n ts.length hs = true then
        let r := hfin l n hs (deadB l n hs) n ts h
        alist P call l.toArray (l.drop n) r.1 r.2
      else none
    | none => none
  | none => none
/-! ### It is so -/
def PzD (C : Cx) (hs : List HD) (i : Nat) (U : Nat → Value) (w : World) (Z : Nat → Prop) : Prop := ∀ d, hs.getD i (.d .any) = .d d → Rd (CF C Z) w d (U i)
def HD.isFb : HD → Bool
  | .fb _ _ => true
  | _ => false
def vIx (l : List Oper) (n i : Nat) (hd : HD) : Nat := if hd.isFb = true then ptrIx l n i else i
def ReD (C : Cx) (l : List Oper) (n : Nat) (hs : List HD) (i : Nat) (U : Nat → Value) (w : World) (Z F : Nat → Prop) : Prop :=
  (hs.getD i (.d .any)).isD = false → HRd C w Z F (hs.getD i (.d .any)) (U (vIx l n i (hs.getD i (.d .any))))
theorem hop_store {penv : FuncId → List D → Option D} {ρ : Operand → HD} {o : Oper} {h : H} {hd : HD} (hs : isStoreOp o.op = true) (e : hop P penv ρ o h = some hd) : ∃ t x y, o.op = .store t x y ∧ hd.isFb = true ∧ (ρ x).isFb = true := by
  unfold isStoreOp at hs
  split at hs
  · rename_i t x y ho
    refine ⟨t, x, y, ho, ?_⟩
    unfold hop at e
    rw [ho] at e
    simp only at e
    split at e
    · rename_i bt ds es i hx hy hi
      split at e
      · cases e
        exact ⟨rfl, by rw [hx]; rfl⟩
      · cases e
    · cases e
  · cases hs
theorem getElem?_bind_toArray (l : List Oper) (i : Nat) : (l.toArray[i]?).bind (·.dst) = dstAt l i := by simp [dstAt]
theorem vIx_self {l : List Oper} {n : Nat} (hsb : storeB l n = true) {k t : Nat} (hkn : k < n) (hkd : dstAt l k = some t) (hd : HD) : vIx l n k hd = k := by
  unfold vIx
  split
  · have hoik := List.all_eq_true.1 hsb k (List.mem_range.2 hkn)
    unfold ptrIx
    cases hlk : l[k]? with
    | none => rfl
    | some ok =>
      rw [hlk] at hoik
      simp only
      split
      · rename_i hop
        have hso : isStoreOp ok.op = true := by rw [hop]; rfl
        simp only [hso, Bool.not_true, Bool.false_or, Bool.and_eq_true] at hoik
        simp only [dstAt, hlk, Option.bind_some] at hkd
        rw [hkd] at hoik
        simp at hoik
      · rfl
  · rfl
/-- What the head's operations yield, one after the other; each call by a contract of its own. -/
structure HRun (P : Program) (l : List Oper) (n : Nat) (ts : List D) (h : H) (hs : List HD) : Prop where
  len : hs.length = n
  spec : ∀ i, i < n → ∃ (o : Oper) (d : HD) (penv : FuncId → List D → Option D), PureOk P penv ∧ l[i]? = some o ∧ hs[i]? = some d ∧ hstep P penv l n ts h (hs.take i) o = some d
theorem HRun.of {penv : FuncId → List D → Option D} (hp : PureOk P penv) {l : List Oper} {n : Nat} {ts : List D} {h : H} {hs : List HD} (hr : hrun P penv l n ts h n = some hs) : HRun P l n ts h hs := by
  obtain ⟨h1, h2⟩ := hrun_spec hr
  refine ⟨h1, fun i hi => ?_⟩
  obtain ⟨o, d, k1, k2, k3⟩ := h2 i hi
  exact ⟨o, d, penv, hp, k1, k2, k3⟩
theorem duty_sound {l : List Oper} {n : Nat} {ts : List D} {h : H} {hs : List HD} {C : Cx} {W : World} {a0 : Act} (s0 : Sim C h W) (ta0 : TA C W ts a0) (hr : HRun P l n ts h hs) (hw : waitsB l n = true) (hsb : storeB l n = true) {i : Nat} {o : Oper} (hi : i < n) (ho : l.toArray[i]? = some o)
    (hdst : ∀ k k' t, k < n → k' < n → dstAt l k = some t → dstAt l k' = some t → k = k') :
    Duty3 P l.toArray n (consOf l n hs) (muOf l) (PzD C hs) (ReD C l n hs) a0 W i o := by
  have hoi : l[i]? = some o := by simpa using ho
  obtain ⟨hlen, hspec⟩ := hr
  obtain ⟨o', hd, penv, hp, e1, hhd, hst⟩ := hspec i hi
  rw [hoi] at e1
  cases e1
  have hgd : hs.getD i (.d .any) = hd := by simp [List.getD, hhd]
  have hwi := List.all_eq_true.1 hw i (List.mem_range.2 hi)
  rw [hoi] at hwi
  simp only [Bool.and_eq_true] at hwi
  have hcons : consOf l n hs i = (depsOf l n o).filter fun k => !(hs.getD k (.d .any)).isD := by simp [consOf, hoi]
  have hmu : muOf l i = (isAppend o.op || isStoreOp o.op) := by simp [muOf, hoi]
  intro a w Q K V Z F hb hother hdeps hzb hpz hre hapart hk
  obtain ⟨sw, fw⟩ := s0.below hb
  have hdeps' : ∀ k t, k < n → waits l.toArray i k = true → dstAt l k = some t → a.tmps[t]? = some (V k) := fun k t h1 h2 h3 => hdeps k t h1 h2 ((getElem?_bind_toArray l k).trans h3)
  let Fi : Nat → Prop := fun b => ∃ k, k ∈ consOf l n hs i ∧ F k b
  have hFi : ∀ b, Fi b → W.heap.size ≤ b ∧ b < w.heap.size ∧ ¬ Z b := fun b ⟨k, hk, hf⟩ => (hre k hk).2 b hf
  have hC : ∀ b o, C.S b o → b < W.heap.size := s0.S
  have sCF : Sim (CF C (fun b => Z b ∨ Fi b)) h w := sw.ext_S fun b hf => by
    have hbb : W.heap.size ≤ b ∧ b < w.heap.size := hf.elim (hzb b) fun h => ⟨(hFi b h).1, (hFi b h).2.1⟩
    exact ⟨hbb.2, fun id hb' => by have := s0.lt id b hb'; omega⟩
  -- what is put in
  have done : ∀ (v : Value) (w' : World) (Z' F' : Nat → Prop), GrowM w w' (fun b => muOf l i = true ∧ ∃ k, k ∈ consOf l n hs i ∧ F k b) → (∀ b, Z b → Z' b) → (∀ b, Z' b → Z b ∨ Fi b ∨ (w.heap.size ≤ b ∧ b < w'.heap.size)) → (∀ b, F' b → (Fi b ∨ (w.heap.size ≤ b ∧ b < w'.heap.size)) ∧ ¬ Z' b) →
      HRd C w' Z' F' hd (mask l.toArray i (upd V i v) (vIx l n i hd)) → K (a.put o.dst v) w' := fun v w' Z' F' hg hZ hZ' hF' hrd => by
    refine hk v w' Z' F' hg hZ hZ' hF' (fun d e => ?_) fun _ => ?_
    · rw [hgd] at e
      subst e
      exact hrd
    · rw [hgd]
      exact hrd
  have vSelf : ∀ v, vIx l n i hd = i → mask l.toArray i (upd V i v) (vIx l n i hd) = v := fun v e => by rw [e, mask_self, upd_same]
  unfold hstep at hst
  have hwant : ∀ b, hwanted l (hs.take i) o = some b → Region.wanted o (yielded l.toArray a.tmps) = b := fun b e => by
    unfold hwanted at e
    unfold Region.wanted
    split at e
    · rename_i hg
      cases e
      simp [hg]
    · rename_i j want hg
      rw [hg] at hwi
      simp only [Bool.and_eq_true, decide_eq_true_eq] at hwi
      obtain ⟨hjn, hjw⟩ := hwi.2
      have hj' := hpz j hjn hjw
      simp only [hg]
      have key : ∀ t u, dstAt l j = some t → (hs.take i)[j]? = some (.d (.raw u)) → a.tmps[t]? = some u := fun t u h1 h2 => by
        have h3 := hdeps' j t hjn hjw h1
        have h4 : hs.getD j (.d .any) = .d (.raw u) := by
          have hlt := (List.getElem?_eq_some_iff.1 h2).1
          rw [List.length_take] at hlt
          rw [List.getElem?_take_of_lt (by omega)] at h2
          simp [List.getD, h2]
        have h5 := hj' _ h4
        rw [mask_self] at h5
        simp only [Rd] at h5
        rw [h3, h5]
      split at e
      · rename_i t b' h1 h2
        cases e
        unfold yielded
        rw [getElem?_bind_toArray, h1]
        simp only [Option.bind_some, key _ _ h1 h2]
        cases b' <;> cases want <;> rfl
      · rename_i t u h1 h2
        cases e
        unfold yielded
        rw [getElem?_bind_toArray, h1]
        simp only [Option.bind_some, key _ _ h1 h2]
        rfl
      · cases e
  split at hst
  · rename_i hwt
    rw [hwant _ hwt, if_pos rfl]
    let Fx : Operand → Nat → Prop := fun x b => match x with
      | .tmp t => match dstIx l t n with
        | some k => k ∈ consOf l n hs i ∧ F k b
        | none => False
      | _ => False
    have hread : ∀ x, HRd C w Z (Fx x) (hval l n ts (hs.take i) o x) (a.eval x) := fun x => by
      cases x with
      | tmp t =>
        simp only [hval]
        cases hix : dstIx l t n with
        | none =>
          have h1 : a.tmps[t]? = a0.tmps[t]? := hother t fun k hk e => dstIx_none hix k hk ((getElem?_bind_toArray l k).symm.trans e)
          have h2 := (ta0.mono fw.toEv).reads (.tmp t)
          have h3 : a.eval (.tmp t) = a0.eval (.tmp t) := by simp [Act.eval, h1]
          rw [h3]
          exact Rd.mono CF.ev0 _ _ h2
        | some k =>
          obtain ⟨hkn, hkd⟩ := dstIx_some hix
          simp only
          split
          · rename_i hdep
            have hmem : k ∈ depsOf l n o := by simpa using hdep
            have hwk : waits l.toArray i k = true := (List.all_eq_true.1 hwi.1) k hmem
            have hval1 : a.eval (.tmp t) = V k := by
              have := hdeps' k t hkn hwk hkd
              simp [Act.eval, this]
            rw [hval1]
            by_cases hki : k < i
            · have e2 : (hs.take i).getD k (.d .any) = hs.getD k (.d .any) := by simp [List.getD, List.getElem?_take_of_lt hki]
              rw [e2]
              by_cases hraw : (hs.getD k (.d .any)).isD = true
              · have hpk := hpz k hkn hwk
                cases hh : hs.getD k (.d .any) with
                | d d =>
                  have := hpk d hh
                  rw [mask_self] at this
                  exact this
                | _ => rw [hh] at hraw; cases hraw
              · have hkc : k ∈ consOf l n hs i := by
                  rw [hcons]
                  exact List.mem_filter.2 ⟨hmem, by simpa using hraw⟩
                have h4 := (hre k hkc).1 (by simpa using hraw)
                rw [vIx_self hsb hkn hkd, mask_self] at h4
                exact HRd.wider (fun b hf => by simp [Fx, hix, hkc, hf]) h4
            · have e2 : (hs.take i).getD k (.d .any) = .d .any := by
                simp only [List.getD]
                rw [List.getElem?_eq_none (by rw [List.length_take]; omega)]
                rfl
              rw [e2]
              trivial
          · trivial
      | const v => exact (rfl : v = v)
      | global g => exact (rfl : (Value.pointer (some ⟨g, 0, none⟩)) = _)
      | func f => exact (rfl : (Value.func (.func f) #[] #[]) = _)
    refine hop_sound hp (Z := Z) (Fi := Fi) sCF (fun b o hs => Nat.lt_of_lt_of_le (hC b o hs) hb.size) (fun b hz => (hzb b hz).2) (fun b hf => (hFi b hf).2) (fun b o hs => ⟨fun hz => by have := hC b o hs; have := (hzb b hz).1; omega, fun hf => by have := hC b o hs; have := (hFi b hf).1; omega⟩) hread (fun x b hf => ?_) (fun x y hne b hfx hfy => ?_) hst fun v w' Z' F' hg hZ hZ' hF' hrd => done v w' Z' F' ?_ hZ hZ' hF' ?_
    · cases x with
      | tmp t =>
        simp only [Fx] at hf
        split at hf
        · exact ⟨_, hf⟩
        · exact hf.elim
      | _ => exact hf.elim
    · cases x with
      | tmp t =>
        cases y with
        | tmp t' =>
          simp only [Fx] at hfx hfy
          split at hfx
          · rename_i k hk1
            split at hfy
            · rename_i k' hk2
              have hkk : k ≠ k' := fun e => by
                subst e
                have h1 := (dstIx_some hk1).2
                rw [(dstIx_some hk2).2] at h1
                simp only [tmpNe] at hne
                cases h1
                simp at hne
              exact hapart k k' b hfx.1 hfy.1 hkk hfx.2 hfy.2
            · exact hfy.elim
          · exact hfx.elim
        | _ => exact hfy.elim
      | _ => exact hfx.elim
    · rw [hmu]
      exact hg
    · cases hso : isStoreOp o.op with
      | false =>
        have e1 : ptrOf o a v = v := by
          unfold ptrOf
          split
          · rename_i hop; rw [hop] at hso; cases hso
          · rfl
        have e2 : vIx l n i hd = i := by
          unfold vIx
          split
          · unfold ptrIx
            rw [hoi]
            simp only
            split
            · rename_i hop; rw [hop] at hso; cases hso
            · rfl
          · rfl
        rw [vSelf v e2]
        rwa [e1] at hrd
      | true =>
        obtain ⟨st, x, y, hop, hfb, hxf⟩ := hop_store hso hst
        -- the address is what another operation has made
        cases x with
        | tmp t =>
          simp only [hval] at hxf
          cases hix : dstIx l t n with
          | none => rw [hix] at hxf; cases hxf
          | some k =>
            rw [hix] at hxf
            simp only at hxf
            split at hxf
            · rename_i hdep
              have hmem : k ∈ depsOf l n o := by simpa using hdep
              have hwk : waits l.toArray i k = true := (List.all_eq_true.1 hwi.1) k hmem
              obtain ⟨hkn, hkd⟩ := dstIx_some hix
              have e2 : vIx l n i hd = k := by
                unfold vIx
                rw [if_pos hfb]
                unfold ptrIx
                rw [hoi]
                simp only [hop, hix]
              have hki : k ≠ i := fun e => by
                subst e
                have hoik := List.all_eq_true.1 hsb k (List.mem_range.2 hi)
                rw [hoi] at hoik
                simp only [hso, Bool.not_true, Bool.false_or, Bool.and_eq_true] at hoik
                simp only [dstAt, hoi, Option.bind_some] at hkd
                rw [hkd] at hoik
                simp at hoik
              rw [e2, mask_waits _ hwk, upd_other _ _ hki]
              have e1 : ptrOf o a v = V k := by
                unfold ptrOf
                rw [hop]
                have := hdeps' k t hkn hwk hkd
                simp [Act.eval, this]
              rwa [e1] at hrd
            · cases hxf
        | const v' => cases hxf
        | global g => cases hxf
        | func f => cases hxf
  · rename_i hwt
    rw [hwant _ hwt, if_neg (by simp)]
    cases hst
    refine done undef w Z (fun _ => False) growM_same (fun b hb => hb) (fun b hb => .inl hb) (fun b hf => hf.elim) ?_
    rw [vSelf undef rfl]
    rfl
  · cases hst
end
end Go.Proofs.Ytbfmaicoefefaaa.Pv
/-! ## Part 14 -/
namespace Go.Proofs.Ytbfmaicoefefaaa.Pv
open Go Go.RowKit
theorem Ev.trans {C C1 C2 : Cx} {w w1 w2 : World} (h : Ev C w C1 w1) (k : Ev C1 w1 C2 w2) : Ev C w C2 w2 := by
  refine ⟨k.os.trans h.os, k.tape.trans h.tape, k.output.trans h.output, Nat.le_trans h.size k.size, fun b o hs => k.sub b o (h.sub b o hs), fun b o hs => (k.cell b o (h.sub b o hs)).trans (h.cell b o hs), fun id b hb => k.bx id b (h.bx id b hb), fun id u hu => ?_⟩
  obtain ⟨u1, h1, h2⟩ := h.lg id u hu
  obtain ⟨u2, h3, h4⟩ := k.lg id u1 h1
  refine ⟨u2, h3, ?_⟩
  rcases h2 with rfl | h2
  · exact h4
  · rcases h4 with rfl | h4
    · exact .inr h2
    · exact .inr (by omega)
section
variable {P : Program}
structure Fin (C : Cx) (W w : World) (l : List Oper) (V : Nat → Value) (Z : Nat → Prop) (F : Nat → Nat → Prop) (a0 : Act) (dead : Nat → Bool) (i : Nat) (r : List D × H) (Ci : Cx) : Prop where
  ev : Ev (CF C Z) w Ci w
  sim : Sim Ci r.2 w
  ta : TA Ci w r.1 (putV l.toArray V a0 i)
  S : ∀ b o, Ci.S b o → (C.S b o ∨ Z b) ∨ ∃ j, j < i ∧ dead j = false ∧ F j b
  own : ∀ id b, Ci.blk id b → C.blk id b ∨ ∃ j, j < i ∧ dead j = false ∧ F j b
theorem hfin_sound {l : List Oper} {n : Nat} {ts : List D} {h : H} {hs : List HD} {C : Cx} {W w : World} {a0 : Act} {V : Nat → Value} {Z : Nat → Prop} {F : Nat → Nat → Prop} {dead : Nat → Bool} (s0 : Sim C h W) (ta0 : TA C W ts a0) (hb : Below W.heap.size W w)
    (hsb : storeB l n = true) (hd0 : dstsB l.toArray n ts.length = true) (hn : n ≤ l.length) (hzb : ∀ b, Z b → W.heap.size ≤ b ∧ b < w.heap.size)
    (hpz : ∀ i, i < n → ∀ d, hs.getD i (.d .any) = .d d → Rd (CF C Z) w d (V i))
    (hre : ∀ i, i < n → dead i = false → (hs.getD i (.d .any)).isD = false → (∀ b, F i b → W.heap.size ≤ b ∧ b < w.heap.size ∧ ¬ Z b) ∧ HRd C w Z (F i) (hs.getD i (.d .any)) (V (vIx l n i (hs.getD i (.d .any)))))
    (hap : ∀ i j b, i < n → j < n → i ≠ j → dead i = false → dead j = false → F i b → F j b → False) :
    ∀ i, i ≤ n → ∃ Ci, Fin C W w l V Z F a0 dead i (hfin l n hs dead i ts h) Ci
  | 0, _ => by
    obtain ⟨s1, f1⟩ := s0.below hb
    exact ⟨CF C Z, ⟨rfl, rfl, rfl, Nat.le_refl _, fun _ _ h => h, fun _ _ _ => rfl, fun _ _ h => h, fun _ u h => ⟨u, h, .inl rfl⟩⟩, s1.ext_S fun b hz => ⟨(hzb b hz).2, fun id hb' => by have := s0.lt id b hb'; have := (hzb b hz).1; omega⟩, (ta0.mono f1.toEv).mono CF.ev0, fun _ _ h => .inl h, fun _ _ h => .inl h⟩
  | i + 1, hi => by
    obtain ⟨Ci, I⟩ := hfin_sound s0 ta0 hb hsb hd0 hn hzb hpz hre hap i (by omega)
    have hin : i < n := by omega
    have hput : ∀ (C2 : Cx) (d : D), TA C2 w (hfin l n hs dead i ts h).1 (putV l.toArray V a0 i) → Rd C2 w d (V i) → TA C2 w (putD (hfin l n hs dead i ts h).1 (dstAt l i) d) (putV l.toArray V a0 (i + 1)) := fun C2 d t r => by
      have := t.put r (dstAt l i)
      rw [← getElem?_bind_toArray] at this ⊢
      exact this
    have hputP : ∀ (C2 : Cx) (d : D), TA C2 w (hfin l n hs dead i ts h).1 (putV l.toArray V a0 i) → Rd C2 w d (V (ptrIx l n i)) → TA C2 w (putD (hfin l n hs dead i ts h).1 (dstAt l (ptrIx l n i)) d) (putV l.toArray V a0 (i + 1)) := fun C2 d t r => by
      by_cases hpi : ptrIx l n i = i
      · rw [hpi] at r ⊢
        exact hput C2 d t r
      · have hil : i < l.length := by omega
        have hoik := List.all_eq_true.1 hsb i (List.mem_range.2 hin)
        rw [List.getElem?_eq_getElem hil] at hoik
        have hst : isStoreOp l[i].op = true := by
          unfold ptrIx at hpi
          rw [List.getElem?_eq_getElem hil] at hpi
          simp only at hpi
          split at hpi
          · rename_i hop; rw [hop]; rfl
          · exact absurd rfl hpi
        simp only [hst, Bool.not_true, Bool.false_or, Bool.and_eq_true, decide_eq_true_eq, Option.isNone_iff_eq_none] at hoik
        have e0 : (l.toArray[i]?).bind (·.dst) = none := by rw [getElem?_bind_toArray]; simp [dstAt, List.getElem?_eq_getElem hil, hoik.1]
        have e1 : putV l.toArray V a0 (i + 1) = putV l.toArray V a0 i := by
          show (putV l.toArray V a0 i).put ((l.toArray[i]?).bind (·.dst)) (V i) = _
          rw [e0]
          rfl
        rw [e1]
        cases hdk : dstAt l (ptrIx l n i) with
        | none => exact t
        | some tt =>
          have hsz : ts.length ≤ a0.tmps.size := by have := ta0.rd.len; simp at this; omega
          have hat := putV_at (ops := l.toArray) V a0 hd0 hsz ((getElem?_bind_toArray l (ptrIx l n i)).trans hdk) i (by omega) hoik.2
          refine ⟨?_, t.defers⟩
          have := RdL.set r t.rd tt
          have e2 : (putV l.toArray V a0 i).tmps.toList.set tt (V (ptrIx l n i)) = (putV l.toArray V a0 i).tmps.toList := by
            rw [← Array.getElem?_toList] at hat
            obtain ⟨hlt, he⟩ := List.getElem?_eq_some_iff.1 hat
            rw [← he]
            exact List.set_getElem_self hlt
          rwa [e2] at this
    have stay : ∀ d : D, Rd Ci w d (V i) → Fin C W w l V Z F a0 dead (i + 1) (putD (hfin l n hs dead i ts h).1 (dstAt l i) d, (hfin l n hs dead i ts h).2) Ci := fun d r =>
      ⟨I.ev, I.sim, hput Ci d I.ta r, fun b o hs => (I.S b o hs).imp id fun ⟨j, h1, h2⟩ => ⟨j, by omega, h2⟩, fun id b hb => (I.own id b hb).imp (fun h => h) fun ⟨j, h1, h2⟩ => ⟨j, by omega, h2⟩⟩
    have live : dead i = false → (hs.getD i (.d .any)).isD = false → (∀ b, F i b → b < w.heap.size ∧ (∀ id, ¬ Ci.blk id b) ∧ ∀ o, ¬ Ci.S b o) := fun hd hnd b hf => by
      have hbb := (hre i hin hd hnd).1 b hf
      refine ⟨hbb.2.1, fun id hk => ?_, fun o hk => ?_⟩
      · rcases I.own id b hk with h1 | ⟨j, h1, h2, h3⟩
        · have := s0.lt id b h1; omega
        · exact hap j i b (by omega) hin (by omega) h2 hd h3 hf
      · rcases I.S b o hk with (h1 | h1) | ⟨j, h1, h2, h3⟩
        · have := s0.S b o h1; omega
        · exact hbb.2.2 h1
        · exact hap j i b (by omega) hin (by omega) h2 hd h3 hf
    simp only [hfin]
    split
    · rename_i d hv
      exact ⟨Ci, stay _ (Rd.mono I.ev d _ (hpz i hin d hv))⟩
    · rename_i e sz ds hv
      cases hd : dead i with
      | true => exact ⟨Ci, by simpa using stay .any trivial⟩
      | false =>
        have hnd : (hs.getD i (.d .any)).isD = false := by rw [hv]; rfl
        have hl := live hd hnd
        have hr := (hre i hin hd hnd).2
        rw [hv] at hr
        have hr : HRd C w Z (F i) (.fs e sz ds) (V i) := hr
        obtain ⟨xs, h2, h3, h4⟩ := hr
        obtain ⟨C', j1, j2, j3, j4, j5, j6⟩ := I.sim.ext_log h3 (fun b hb => ⟨(hl b (h2 b hb)).2.2, (hl b (h2 b hb)).2.1⟩)
        simp only [Bool.false_eq_true, if_false]
        refine ⟨C', I.ev.trans j1, j2, hput _ _ (I.ta.mono j1) ?_, fun b o hs => ?_, fun id b hk => ?_⟩
        · exact own_RdE h3 h4 (I.ev.trans j1) j4 _ fun id e => by
            cases e
            exact ⟨_, j3, by rw [ownsRow_len h3]; exact Nat.le_refl _, fun _ => rfl⟩
        · rcases j5 b o hs with hs | hs
          · exact (I.S b o hs).imp id fun ⟨j, h1, h2⟩ => ⟨j, by omega, h2⟩
          · exact .inr ⟨i, Nat.lt_succ_self _, hd, h2 b hs⟩
        · rcases j6 id b hk with hk | hk
          · exact (I.own id b hk).imp (fun h => h) fun ⟨j, h1, h2⟩ => ⟨j, by omega, h2⟩
          · exact .inr ⟨i, Nat.lt_succ_self _, hd, h2 b hk⟩
    · rename_i t ds hv
      cases hd : dead i with
      | true => exact ⟨Ci, by simpa using stay .any trivial⟩
      | false =>
        have hnd : (hs.getD i (.d .any)).isD = false := by rw [hv]; rfl
        have hl := live hd hnd
        have hr := (hre i hin hd hnd).2
        rw [hv] at hr
        have hr : HRd C w Z (F i) (.fb t ds) (V (ptrIx l n i)) := hr
        obtain ⟨b0, vs, h2, h4, h5, h6, h7⟩ := hr
        obtain ⟨C', j1, j2, j3, j4, j5⟩ := I.sim.ext_box h5 (h6.mono I.ev) h7 (hl b0 h2).2.2 (hl b0 h2).2.1
        simp only [Bool.false_eq_true, if_false]
        refine ⟨C', I.ev.trans j1, j2, hputP _ _ (I.ta.mono j1) ⟨b0, j3, h4⟩, fun b o hs => ?_, fun id b hk => ?_⟩
        · exact (I.S b o (j4 b o hs)).imp id fun ⟨j, h1, h2⟩ => ⟨j, by omega, h2⟩
        · rcases j5 id b hk with hk | rfl
          · exact (I.own id b hk).imp (fun h => h) fun ⟨j, h1, h2⟩ => ⟨j, by omega, h2⟩
          · exact .inr ⟨i, Nat.lt_succ_self _, hd, h2⟩
theorem mask_ptr {l : List Oper} {n : Nat} (hw : waitsB l n = true) (i : Nat) (hi : i < n) (hd : HD) (V : Nat → Value) : mask l.toArray i V (vIx l n i hd) = V (vIx l n i hd) := by
  unfold vIx
  split
  · have hwi := List.all_eq_true.1 hw i (List.mem_range.2 hi)
    unfold ptrIx
    cases hli : l[i]? with
    | none => exact mask_self _ _ _
    | some o =>
      rw [hli] at hwi
      simp only [Bool.and_eq_true] at hwi
      simp only
      split
      · rename_i ty t y hop
        split
        · rename_i k hk
          refine mask_waits V ((List.all_eq_true.1 hwi.1) k ?_)
          unfold depsOf
          rw [hop]
          simp [Op.operands, hk]
        · exact mask_self _ _ _
      · exact mask_self _ _ _
  · exact mask_self _ _ _
theorem findHead_some {l : List Oper} : ∀ {f m n : Nat}, findHead l f m = some n → headB .any l.toArray n = true
  | f + 1, m, n, e => by
    simp only [findHead] at e
    split at e
    · rename_i h
      cases e
      exact h
    · exact findHead_some e
theorem adraw_anyW {l : List Oper} {n : Nat} {ts : List D} {h : H} {hs : List HD} (hr : HRun P l n ts h hs) (hB : HeadW .any l.toArray n) (hst : staticW l n ts.length hs = true)
    {C : Cx} {w : World} {a : Act} {Q : Exit → Act → World → Prop} (s : Sim C h w) (ta : TA C w ts a)
    (hk : ∀ a' C' w', Fw C w C' w' → Sim C' (hfin l n hs (deadB l n hs) n ts h).2 w' → TA C' w' (hfin l n hs (deadB l n hs) n ts h).1 a' → wpAny P .any l.toArray Q (l.toArray.size - n) (doneA n (l.toArray.size - n)) a' w') : wpAny P .any l.toArray Q l.toArray.size (Array.replicate l.toArray.size false) a w.drew := by
  simp only [staticW, Bool.and_eq_true] at hst
  obtain ⟨⟨hd, hw, hsb⟩, hc⟩ := hst
  obtain ⟨s1, f1⟩ := s.drew
  have ta1 := ta.mono f1.toEv
  have hC1 : ∀ b o, C.S b o → b < w.drew.heap.size := s1.S
  have hsz : ts.length ≤ a.tmps.size := by have := ta.rd.len; simp at this; omega
  have hnsz : n ≤ l.toArray.size := hB.le
  refine any_sepW (m := ts.length) (n := n) (consOf l n hs) (muOf l) (PzD C hs) (ReD C l n hs) hB hd hsz hc ?_ ?_ ?_ ?_
  · intro i U x x' Z Z' _ r hZZ hZx hBx hk d hdd
    have := HRd.keep (hd := .d d) (F := fun _ => False) (r d hdd) hC1 hBx hZx (.inl rfl) hZZ ⟨hk.os, hk.tape, hk.output, hk.size, fun b hb hbz => hk.block b hb (hbz.imp (fun h => h) fun h => h.elim (fun h => h) fun h => h.2.elim)⟩
    exact this
  · intro i U x x' Z Z' F _ r hZZ hZx hFx hBx hk hnd
    exact HRd.keep (r hnd) hC1 hBx hZx (.inr hFx) hZZ ⟨hk.os, hk.tape, hk.output, hk.size, fun b hb hbz => hk.block b hb (hbz.imp (fun h => h) fun h => h.imp (fun h => h) (·.2))⟩
  · intro i o hi ho
    refine duty_sound s1 ta1 hr hw hsb hi ho fun k k' t hkn hkn' e1 e2 => ?_
    by_cases hkk : k = k'
    · exact hkk
    · exact absurd ((getElem?_bind_toArray l k').trans e2) (dstsB_ne hd hkn hkn' hkk ((getElem?_bind_toArray l k).trans e1))
  · intro V Z F x hbx hzb hpz hre hap
    have hdead : ∀ i, deadB l n hs i = false → ∀ c, c < n → i ∉ consOf l n hs c := fun i hd c hc hm => by
      have : deadB l n hs i = true := List.any_eq_true.2 ⟨c, List.mem_range.2 hc, by simpa using hm⟩
      rw [this] at hd
      cases hd
    obtain ⟨Cn, I⟩ := hfin_sound (l := l) (n := n) (hs := hs) (V := V) (Z := Z) (F := F) (dead := deadB l n hs) s1 ta1 hbx hsb hd (by simpa using hnsz) hzb (fun i hi d hv => by
        have := hpz i hi d hv
        rwa [mask_self] at this) (fun i hi hd hnd => by
        obtain ⟨h1, h2⟩ := hre i hi (hdead i hd)
        have h3 := h1 hnd
        rw [mask_ptr hw i hi] at h3
        exact ⟨h2, h3⟩) (fun i j b hi hj hne h1 h2 => hap i j b hi hj hne (hdead i h1) (hdead j h2)) n (Nat.le_refl _)
    have evW : Ev C w.drew Cn x := by
      have e0 := (s1.below hbx).2.toEv
      exact e0.trans (CF.ev0.trans I.ev)
    have fw : Fw C w Cn x := by
      have h0 : w.drew.heap.size = w.heap.size := rfl
      have big : ∀ j b, j < n ∧ deadB l n hs j = false ∧ F j b → w.heap.size ≤ b := fun j b ⟨h1, h2, h3⟩ => ((hre j h1 (hdead j h2)).2 b h3).1
      refine f1.trans ⟨evW, fun b hb _ => hbx.block b hb, fun id' b hk hb => ?_, fun b o hs' hb => ?_⟩
      · rcases I.own id' b hk with h1 | ⟨j, h1⟩
        · exact ⟨id', h1⟩
        · have := big j b h1
          omega
      · rcases I.S b o hs' with (h1 | h1) | ⟨j, h1⟩
        · exact .inl h1
        · have := (hzb b h1).1
          omega
        · have := big j b h1
          omega
    exact hk _ Cn x fw I.sim I.ta
theorem adraw_coreW (hm : P.follows .mixedOrders = true) {l : List Oper} {n : Nat} {ts : List D} {h : H} {hs : List HD} (hr : HRun P l n ts h hs) (hB : HeadW .any l.toArray n) (hst : staticW l n ts.length hs = true)
    (id : Nat) {C : Cx} {w : World} {a : Act} {Q : Exit → Act → World → Prop} (s : Sim C h w) (ta : TA C w ts a)
    (hk : ∀ a' C' w', Fw C w C' w' → Sim C' (hfin l n hs (deadB l n hs) n ts h).2 w' → TA C' w' (hfin l n hs (deadB l n hs) n ts h).1 a' → wpAny P .any l.toArray Q (l.toArray.size - n) (doneA n (l.toArray.size - n)) a' w') : (Code.region id l.toArray true).wp P Q a w := wp_region_any hm (adraw_anyW hr hB hst s ta hk)
theorem adraw_core (hm : P.follows .mixedOrders = true) {l : List Oper} {n : Nat} {ts : List D} {h : H} {hs : List HD} (hr : HRun P l n ts h hs) (hst : staticB l n ts.length hs = true)
    (id : Nat) {C : Cx} {w : World} {a : Act} {Q : Exit → Act → World → Prop} (s : Sim C h w) (ta : TA C w ts a)
    (hk : ∀ a' C' w', Fw C w C' w' → Sim C' (hfin l n hs (deadB l n hs) n ts h).2 w' → TA C' w' (hfin l n hs (deadB l n hs) n ts h).1 a' → wpList P l.toArray Q (l.drop n) a' w') : (Code.region id l.toArray true).wp P Q a w := by
  simp only [staticB, Bool.and_eq_true] at hst
  obtain ⟨⟨⟨hB, hd⟩, hw⟩, hc⟩ := hst
  exact adraw_coreW hm hr (headW_of hB) (by simp only [staticW, Bool.and_eq_true]; exact ⟨⟨hd, hw⟩, hc⟩) id s ta fun a' C' w' f s' t' => tail_seq hB (by simpa using hk a' C' w' f s' t')
theorem adraw_sound {call : FuncId → List D → H → Option (D × H)} {penv : FuncId → List D → Option D} (hm : P.follows .mixedOrders = true) (hcall : CallOk P call) (hp : PureOk P penv) :
    ∀ l ts h ts' h', adraw P call penv l ts h = some (ts', h') → ∀ (id : Nat) (C : Cx) (w : World) (a : Act) (Q : Exit → Act → World → Prop), Sim C h w → TA C w ts a →
    (∀ a' C' w', Fw C w C' w' → Sim C' h' w' → TA C' w' ts' a' → Q .normal a' w') → (Code.region id l.toArray true).wp P Q a w := by
  intro l ts h ts' h' e id C w a Q s ta hk
  unfold adraw at e
  split at e
  · split at e
    · rename_i hs hr
      split at e
      · rename_i hst
        refine adraw_core hm (HRun.of hp hr) hst id s ta fun a1 C1 w1 f1 s1 t1 => ?_
        exact alist_sound hcall e s1 t1 fun a' C' w' f' s' t' => hk a' C' w' (f1.trans f') s' t'
      · cases e
    · cases e
  · cases e
end
end Go.Proofs.Ytbfmaicoefefaaa.Pv
/-! ## Part 16 -/
namespace Go.Proofs.Ytbfmaicoefefaaa.Pv
open Go Go.RowKit
section
variable {P : Program}
/-! ### A drawn region that stores into boxes: its writes are ordered against all else that looks at memory -/
def isStore (o : Oper) : Bool := match o.op with | .store .. => true | _ => false
def isLoad (o : Oper) : Bool := match o.op with | .load .. => true | _ => false
theorem sop_still {ρ : Operand → D} {o : Oper} {h h' : H} (e : isLoad o = false) : sop P ρ o h = sop P ρ o h' := by
  unfold isLoad at e
  unfold sop
  split <;> first | rfl | (simp_all; done)
def directs (l : List Oper) (n i : Nat) : List Nat := (List.range n).filter fun k => waits l.toArray i k
def ancL (l : List Oper) (n : Nat) : Nat → List (List Nat)
  | 0 => []
  | i + 1 =>
    let L := ancL l n i
    L ++ [((directs l n i).flatMap fun m => m :: L.getD m []).eraseDups]
theorem ancL_spec {l : List Oper} {n : Nat} {listed : Array Bool} (hcl : ∀ i k, waits l.toArray i k = true → listed.getD i false = true → listed.getD k false = true) : ∀ m, (ancL l n m).length = m ∧ ∀ i, i < m → ∀ k, k ∈ (ancL l n m).getD i [] → (∀ q, waits l.toArray i q = true → listed.getD q false = true) → listed.getD k false = true
  | 0 => ⟨rfl, fun i hi => absurd hi (Nat.not_lt_zero _)⟩
  | m + 1 => by
    obtain ⟨h1, h2⟩ := ancL_spec (n := n) hcl m
    refine ⟨by simp [ancL, h1], fun i hi k hk hd => ?_⟩
    simp only [ancL] at hk
    by_cases him : i < m
    · have e : (ancL l n m ++ [((directs l n m).flatMap fun q => q :: (ancL l n m).getD q []).eraseDups]).getD i [] = (ancL l n m).getD i [] := by simp [List.getD, List.getElem?_append_left (show i < (ancL l n m).length by omega)]
      rw [e] at hk
      exact h2 i him k hk hd
    · have him' : i = m := by omega
      subst him'
      have e : (ancL l n i ++ [((directs l n i).flatMap fun q => q :: (ancL l n i).getD q []).eraseDups]).getD i [] = ((directs l n i).flatMap fun q => q :: (ancL l n i).getD q []).eraseDups := by simp [List.getD, List.getElem?_append_right (show (ancL l n i).length ≤ i by omega), h1]
      rw [e, List.mem_eraseDups, List.mem_flatMap] at hk
      obtain ⟨q, hq, hkq⟩ := hk
      have hw : waits l.toArray i q = true := (List.mem_filter.1 hq).2
      have hlq := hd q hw
      rcases List.mem_cons.1 hkq with rfl | hkq
      · exact hlq
      · by_cases hqm : q < i
        · exact h2 q hqm k hkq fun r hr => hcl q r hr hlq
        · have : (ancL l n i).getD q [] = [] := by simp [List.getD, List.getElem?_eq_none (show (ancL l n i).length ≤ q by omega)]
          rw [this] at hkq
          cases hkq
def ordB (l : List Oper) (n : Nat) : Bool :=
  let L := ancL l n n
  (List.range n).all fun j => match l[j]? with
    | some oj => !isStore oj || (List.range n).all fun i => match l[i]? with
      | some oi => decide (i = j) || !(isStore oi || isLoad oi) || (if i < j then (L.getD j []).contains i else (L.getD i []).contains j)
      | none => true
    | none => true
def lval (l : List Oper) (n : Nat) (ts vs : List D) (o : Oper) : Operand → D
  | .tmp t => match dstIx l t n with
    | some k => if (depsOf l n o).contains k = true then vs.getD k .any else .any
    | none => ts.getD t .any
  | x => dv ts x
def lwanted (l : List Oper) (vs : List D) (o : Oper) : Option Bool :=
  match o.guard with
  | none => some true
  | some (j, want) => match dstAt l j, vs[j]? with
    | some _, some (.raw (.bool b)) => some (b == want)
    | some _, some (.raw (.tuple _)) => some false
    | _, _ => none
def lstep (P : Program) (l : List Oper) (n : Nat) (ts vs : List D) (h : H) (o : Oper) : Option (D × H) :=
  match lwanted l vs o with
  | some true => match o.op with
    | .store t a x => match storeD P h t (lval l n ts vs o a) (lval l n ts vs o x) with
      | some h' => some (.any, h')
      | none => none
    | _ => match sop P (lval l n ts vs o) o h with
      | some d => some (d, h)
      | none => none
  | some false => some (.raw undef, h)
  | none => none
def lrun (P : Program) (l : List Oper) (n : Nat) (ts : List D) (h : H) : Nat → Option (List D × List H)
  | 0 => some ([], [h])
  | i + 1 => match lrun P l n ts h i, l[i]? with
    | some (vs, hst), some o => match lstep P l n ts vs (hst.getD i []) o with
      | some (d, h') => some (vs ++ [d], hst ++ [h'])
      | none => none
    | _, _ => none
theorem lrun_spec {l : List Oper} {n : Nat} {ts : List D} {h : H} : ∀ {m : Nat} {vs : List D} {hst : List H}, lrun P l n ts h m = some (vs, hst) → vs.length = m ∧ hst.length = m + 1 ∧ hst.getD 0 [] = h ∧ ∀ i, i < m → ∃ o d, l[i]? = some o ∧ vs[i]? = some d ∧ lstep P l n ts (vs.take i) (hst.getD i []) o = some (d, hst.getD (i + 1) [])
  | 0, vs, hst, e => by
    simp only [lrun, Option.some.injEq, Prod.mk.injEq] at e
    obtain ⟨rfl, rfl⟩ := e
    exact ⟨rfl, rfl, rfl, fun i hi => absurd hi (Nat.not_lt_zero _)⟩
  | m + 1, vs, hst, e => by
    simp only [lrun] at e
    split at e
    · rename_i vs' hst' o h1 h2
      split at e
      · rename_i d h' h3
        simp only [Option.some.injEq, Prod.mk.injEq] at e
        obtain ⟨rfl, rfl⟩ := e
        obtain ⟨k1, k2, k0, k3⟩ := lrun_spec h1
        have keep : ∀ q, q < m + 1 → (hst' ++ [h']).getD q [] = hst'.getD q [] := fun q hq => by simp [List.getD, List.getElem?_append_left (show q < hst'.length by omega)]
        have last : (hst' ++ [h']).getD (m + 1) [] = h' := by simp [List.getD, List.getElem?_append_right (show hst'.length ≤ m + 1 by omega), k2]
        refine ⟨by simp [k1], by simp [k2], by rw [keep 0 (by omega)]; exact k0, fun i hi => ?_⟩
        by_cases him : i < m
        · obtain ⟨o', d', j1, j2, j3⟩ := k3 i him
          refine ⟨o', d', j1, by rw [List.getElem?_append_left (by omega)]; exact j2, ?_⟩
          rw [List.take_append_of_le_length (by omega), keep i (by omega), keep (i + 1) (by omega)]
          exact j3
        · have : i = m := by omega
          subst this
          refine ⟨o, d, h2, by rw [List.getElem?_append_right (by omega), k1]; simp, ?_⟩
          rw [List.take_append_of_le_length (by omega), List.take_of_length_le (by omega), keep i (by omega), last]
          exact h3
      · cases e
    · cases e
def lputs (l : List Oper) (vs : List D) : Nat → List D → List D
  | 0, ts => ts
  | i + 1, ts => putD (lputs l vs i ts) (dstAt l i) (vs.getD i .any)
def aline (P : Program) (call : FuncId → List D → H → Option (D × H)) (l : List Oper) (ts : List D) (h : H) : Option (List D × H) :=
  match findHead l (l.length + 1) 0 with
  | some n => match lrun P l n ts h n with
    | some (vs, hst) => if headB .any l.toArray n = true ∧ dstsB l.toArray n ts.length = true ∧ waitsB l n = true ∧ ordB l n = true then
        alist P call l.toArray (l.drop n) (lputs l vs n ts) (hst.getD n [])
      else none
    | none => none
  | none => none
structure LInv (C : Cx) (W : World) (l : List Oper) (n : Nat) (vs : List D) (hst : List H) (a0 : Act) (listed : Array Bool) (a : Act) (w : World) : Prop where
  fw : Fw C W C w
  defers : a.defers = a0.defers
  size : a.tmps.size = a0.tmps.size
  at_ : ∃ p, p ≤ n ∧ (∀ j o, j < n → l[j]? = some o → isStore o = true → (listed.getD j false = true ↔ j < p)) ∧ Sim C (hst.getD p []) w
  other : ∀ t, (∀ i, i < n → dstAt l i ≠ some t) → a.tmps[t]? = a0.tmps[t]?
  val : ∀ k t, k < n → listed.getD k false = true → dstAt l k = some t → ∃ v, a.tmps[t]? = some v ∧ Rd C w (vs.getD k .any) v
theorem hst_same {l : List Oper} {n : Nat} {ts : List D} {vs : List D} {hst : List H} (hspec : ∀ i, i < n → ∃ o d, l[i]? = some o ∧ vs[i]? = some d ∧ lstep P l n ts (vs.take i) (hst.getD i []) o = some (d, hst.getD (i + 1) [])) {p : Nat} : ∀ {q : Nat}, p ≤ q → q ≤ n → (∀ j o, p ≤ j → j < q → l[j]? = some o → isStore o = false) → hst.getD q [] = hst.getD p []
  | 0, hpq, _, _ => by
    have : p = 0 := by omega
    rw [this]
  | q + 1, hpq, hq, hno => by
    by_cases e : p = q + 1
    · rw [e]
    · obtain ⟨o, d, h1, h2, h3⟩ := hspec q (by omega)
      have hs := hno q o (by omega) (by omega) h1
      have : hst.getD (q + 1) [] = hst.getD q [] := by
        unfold lstep at h3
        split at h3
        · split at h3
          · rename_i t a x ho
            unfold isStore at hs
            rw [ho] at hs
            cases hs
          · split at h3
            · simp only [Option.some.injEq, Prod.mk.injEq] at h3
              exact h3.2.symm
            · cases h3
        · simp only [Option.some.injEq, Prod.mk.injEq] at h3
          exact h3.2.symm
        · cases h3
      rw [this]
      exact hst_same hspec (by omega) (by omega) fun j o h1 h2 h3 => hno j o h1 (by omega) h3
/-- What the head's operations yield, one after the other, and the boxes ahead of each. -/
structure LRun (P : Program) (l : List Oper) (n : Nat) (ts : List D) (h : H) (vs : List D) (hst : List H) : Prop where
  len : vs.length = n
  len2 : hst.length = n + 1
  zero : hst.getD 0 [] = h
  spec : ∀ i, i < n → ∃ o d, l[i]? = some o ∧ vs[i]? = some d ∧ lstep P l n ts (vs.take i) (hst.getD i []) o = some (d, hst.getD (i + 1) [])
theorem aline_core (hm : P.follows .mixedOrders = true) {l : List Oper} {n : Nat} {ts : List D} {h : H} {vs : List D} {hst : List H} (hr : LRun P l n ts h vs hst) (hst4 : headB .any l.toArray n = true ∧ dstsB l.toArray n ts.length = true ∧ waitsB l n = true ∧ ordB l n = true)
    (id : Nat) {C : Cx} {w : World} {a0 : Act} {Q : Exit → Act → World → Prop} (s : Sim C h w) (ta : TA C w ts a0)
    (hk : ∀ a' C' w', Fw C w C' w' → Sim C' (hst.getD n []) w' → TA C' w' (lputs l vs n ts) a' → wpList P l.toArray Q (l.drop n) a' w') : (Code.region id l.toArray true).wp P Q a0 w := by
  obtain ⟨hB, hd, hw, hord⟩ := hst4
  obtain ⟨hlen, hlen2, hz, hspec⟩ := hr
  obtain ⟨s1, f1⟩ := s.drew
  have ta1 := ta.mono f1.toEv
  have hnsz : n ≤ l.toArray.size := by
    simp only [headB, Bool.and_eq_true, decide_eq_true_eq] at hB
    exact hB.1.1.2
  have hsz : ts.length ≤ a0.tmps.size := by have := ta.rd.len; simp at this; omega
  have hdst : ∀ k k' t, k < n → k' < n → dstAt l k = some t → dstAt l k' = some t → k = k' := fun k k' t hkn hkn' e1 e2 => by
    by_cases hkk : k = k'
    · exact hkk
    · exact absurd ((getElem?_bind_toArray l k').trans e2) (dstsB_ne hd hkn hkn' hkk ((getElem?_bind_toArray l k).trans e1))
  have hdlt : ∀ k t, k < n → dstAt l k = some t → t < ts.length := fun k t hkn e1 => dstsB_lt hd hkn ((getElem?_bind_toArray l k).trans e1)
  refine wp_region_any hm ?_
  have H := wpAny_inv (P := P) (md := .any) (ops := l.toArray) (n := n) (Q := Q) (Inv := LInv C w.drew l n vs hst a0) hB ?_ ?_ n (Array.replicate l.toArray.size false) a0 w.drew
    ⟨by simp, fun j oj _ hl => (by rw [getD_replicate_false] at hl; cases hl), fun t _ ht => getD_in (by simpa using ht) (getD_replicate_false _ _)⟩ ?_
    ⟨Fw.refl _ _, rfl, rfl, ⟨0, Nat.zero_le _, fun j o _ _ _ => ⟨fun hl => (by rw [getD_replicate_false] at hl; cases hl), fun h0 => absurd h0 (Nat.not_lt_zero _)⟩, by rw [hz]; exact s1⟩, fun _ _ => rfl, fun k t _ hl => (by rw [getD_replicate_false] at hl; cases hl)⟩
  · rw [show n + (l.toArray.size - n) = l.toArray.size by omega] at H
    exact H
  · -- one operation
    rintro listed a x i inv hrd hi I
    obtain ⟨hun, o, ho, hall⟩ := mem_ready.1 hrd
    have hoi : l[i]? = some o := by simpa using ho
    have hunf : listed.getD i false = false := getD_both hun
    have hisz : i < listed.size := by
      rw [inv.size]
      omega
    have hlw : ∀ k, waits l.toArray i k = true → listed.getD k false = true := fun k hwk => by
      obtain ⟨oj, hoj, e', he', hbd, hon⟩ := Region.waitsFor_spec hwk
      have : oj = o := Option.some.inj (hoj.symm.trans ho)
      subst this
      have := hall e' he' hbd
      rwa [hon] at this
    have hclo : ∀ j k, waits l.toArray j k = true → listed.getD j false = true → listed.getD k false = true := fun j k hwk hl => by
      obtain ⟨oj, hoj, e', he', hbd, hon⟩ := Region.waitsFor_spec hwk
      have := inv.closed j oj hoj hl e' he' hbd
      rwa [hon] at this
    obtain ⟨hal, hanc⟩ := ancL_spec (n := n) hclo n
    obtain ⟨o', d, e1, hvd, hst3⟩ := hspec i hi
    rw [hoi] at e1
    cases e1
    have hvg : vs.getD i .any = d := by simp [List.getD, hvd]
    obtain ⟨p, hpn, hpw, sp⟩ := I.at_
    have hwi := List.all_eq_true.1 hw i (List.mem_range.2 hi)
    rw [hoi] at hwi
    simp only [Bool.and_eq_true] at hwi
    have ordS : ∀ j oj, j < n → l[j]? = some oj → isStore oj = true → i ≠ j → (isStore o = true ∨ isLoad o = true) → (if i < j then ((ancL l n n).getD j []).contains i else ((ancL l n n).getD i []).contains j) = true := fun j oj hj hoj hs hne hm => by
      have h1 := List.all_eq_true.1 hord j (List.mem_range.2 hj)
      rw [hoj] at h1
      simp only [hs, Bool.not_true, Bool.false_or] at h1
      have h2 := List.all_eq_true.1 h1 i (List.mem_range.2 hi)
      rw [hoi] at h2
      simp only [Bool.or_eq_true, decide_eq_true_eq, Bool.not_eq_true'] at h2
      rcases h2 with (h2 | h2) | h2
      · exact absurd h2 hne
      · rcases hm with hm | hm <;> simp [hm] at h2
      · exact h2
    -- where we stand
    have here : (isStore o = true ∨ isLoad o = true) → hst.getD p [] = hst.getD i [] := fun hmem => by
      rcases Nat.le_total p i with hpi | hip
      · refine (hst_same hspec hpi (by omega) fun j oj h1 h2 h3 => ?_).symm
        cases hs : isStore oj with
        | false => rfl
        | true =>
          have h4 := ordS j oj (by omega) h3 hs (by omega) hmem
          rw [if_neg (by omega)] at h4
          have h5 := hanc i hi j (by simpa using h4) hlw
          have := (hpw j oj (by omega) h3 hs).1 h5
          omega
      · refine hst_same hspec hip hpn fun j oj h1 h2 h3 => ?_
        cases hs : isStore oj with
        | false => rfl
        | true =>
          have h5 := (hpw j oj (by omega) h3 hs).2 h2
          by_cases hij : i = j
          · subst hij
            rw [hunf] at h5
            cases h5
          · have h4 := ordS j oj (by omega) h3 hs hij hmem
            rw [if_pos (by omega)] at h4
            have h6 := hanc j (by omega) i (by simpa using h4) fun q hq => hclo j q hq h5
            rw [hunf] at h6
            cases h6
    have hread : Reads C x (lval l n ts (vs.take i) o) a.eval := fun y => by
      cases y with
      | tmp t =>
        simp only [lval]
        cases hix : dstIx l t n with
        | none =>
          have h1 : a.tmps[t]? = a0.tmps[t]? := I.other t (dstIx_none hix)
          have h2 := (ta1.mono I.fw.toEv).reads (.tmp t)
          have h3 : a.eval (.tmp t) = a0.eval (.tmp t) := by simp [Act.eval, h1]
          rw [h3]
          exact h2
        | some k =>
          obtain ⟨hkn, hkd⟩ := dstIx_some hix
          simp only
          split
          · rename_i hdep
            have hmem : k ∈ depsOf l n o := by simpa using hdep
            have hwk : waits l.toArray i k = true := (List.all_eq_true.1 hwi.1) k hmem
            obtain ⟨v, hv1, hv2⟩ := I.val k t hkn (hlw k hwk) hkd
            have hval1 : a.eval (.tmp t) = v := by simp [Act.eval, hv1]
            rw [hval1]
            by_cases hki : k < i
            · have e2 : (vs.take i).getD k .any = vs.getD k .any := by simp [List.getD, List.getElem?_take_of_lt hki]
              rw [e2]
              exact hv2
            · have e2 : (vs.take i).getD k .any = .any := by
                simp only [List.getD]
                rw [List.getElem?_eq_none (by rw [List.length_take]; omega)]
                rfl
              rw [e2]
              trivial
          · trivial
      | const v => exact (rfl : v = v)
      | global g => exact (rfl : (Value.pointer (some ⟨g, 0, none⟩)) = _)
      | func f => exact (rfl : (Value.func (.func f) #[] #[]) = _)
    have hwant : ∀ b, lwanted l (vs.take i) o = some b → Region.wanted o (yielded l.toArray a.tmps) = b := fun b e => by
      unfold lwanted at e
      unfold Region.wanted
      split at e
      · rename_i hg
        cases e
        simp [hg]
      · rename_i j want hg
        rw [hg] at hwi
        simp only [Bool.and_eq_true, decide_eq_true_eq] at hwi
        obtain ⟨hjn, hjw⟩ := hwi.2
        simp only [hg]
        have key : ∀ t u, dstAt l j = some t → (vs.take i)[j]? = some (.raw u) → a.tmps[t]? = some u := fun t u h1 h2 => by
          obtain ⟨v, hv1, hv2⟩ := I.val j t hjn (hlw j hjw) h1
          have h4 : vs.getD j .any = .raw u := by
            have hlt := (List.getElem?_eq_some_iff.1 h2).1
            rw [List.length_take] at hlt
            rw [List.getElem?_take_of_lt (by omega)] at h2
            simp [List.getD, h2]
          rw [h4] at hv2
          simp only [Rd] at hv2
          rw [hv1, hv2]
        split at e
        · rename_i t b' h1 h2
          cases e
          unfold yielded
          rw [getElem?_bind_toArray, h1]
          simp only [Option.bind_some, key _ _ h1 h2]
          cases b' <;> cases want <;> rfl
        · rename_i t u h1 h2
          cases e
          unfold yielded
          rw [getElem?_bind_toArray, h1]
          simp only [Option.bind_some, key _ _ h1 h2]
          rfl
        · cases e
    -- what the invariant comes to
    have next : ∀ (v : Value) (x' : World), Fw C x C x' → Rd C x' d v → (∃ p, p ≤ n ∧ (∀ j oj, j < n → l[j]? = some oj → isStore oj = true → ((listed.setIfInBounds i true).getD j false = true ↔ j < p)) ∧ Sim C (hst.getD p []) x') → LInv C w.drew l n vs hst a0 (listed.setIfInBounds i true) (a.put o.dst v) x' := fun v x' f r hp => by
      have hdo : dstAt l i = o.dst := by simp [dstAt, hoi]
      refine ⟨I.fw.trans f, (by rw [← I.defers]; exact put_defers _ _ _), (put_size _ _ _).trans I.size, hp, fun t ht => (put_other _ _ (by rw [← hdo]; exact ht i hi)).trans (I.other t ht), fun k t hkn hl hkd => ?_⟩
      by_cases hki : k = i
      · subst hki
        rw [hdo] at hkd
        rw [hvg]
        refine ⟨v, ?_, r⟩
        rw [hkd]
        exact put_same _ _ (by rw [I.size]; exact Nat.lt_of_lt_of_le (hdlt k t hi (hdo.trans hkd)) hsz)
      · rw [getD_set_ne false (fun e' => hki e'.symm)] at hl
        obtain ⟨u, hu1, hu2⟩ := I.val k t hkn hl hkd
        refine ⟨u, ?_, hu2.mono f.toEv⟩
        rw [put_other _ _ fun e' => hki (hdst k i t hkn hi hkd (hdo.trans e'))]
        exact hu1
    have setd : (listed.setIfInBounds i true).getD i false = true := by simp [hisz]
    have stay : isStore o = false → ∃ p, p ≤ n ∧ (∀ j oj, j < n → l[j]? = some oj → isStore oj = true → ((listed.setIfInBounds i true).getD j false = true ↔ j < p)) ∧ Sim C (hst.getD p []) x := fun hns => by
      refine ⟨p, hpn, fun j oj hj hoj hs => ?_, sp⟩
      have hji : j ≠ i := fun e' => by
        subst e'
        rw [hoi] at hoj
        cases hoj
        rw [hs] at hns
        cases hns
      rw [getD_set_ne false (fun e' => hji e'.symm)]
      exact hpw j oj hj hoj hs
    have goes : isStore o = true → ∀ x', Sim C (hst.getD (i + 1) []) x' → ∃ p, p ≤ n ∧ (∀ j oj, j < n → l[j]? = some oj → isStore oj = true → ((listed.setIfInBounds i true).getD j false = true ↔ j < p)) ∧ Sim C (hst.getD p []) x' := fun his x' sx => by
      have hpi : p ≤ i := by
        have := hpw i o hi hoi his
        rcases Nat.lt_or_ge i p with h1 | h1
        · have := this.2 h1
          rw [hunf] at this
          cases this
        · exact h1
      refine ⟨i + 1, by omega, fun j oj hj hoj hs => ?_, sx⟩
      by_cases hji : j = i
      · subst hji
        exact ⟨fun _ => Nat.lt_succ_self _, fun _ => setd⟩
      · rw [getD_set_ne false (fun e' => hji e'.symm), hpw j oj hj hoj hs]
        refine ⟨fun h1 => by omega, fun h1 => ?_⟩
        have h4 := ordS j oj hj hoj hs (fun e' => hji e'.symm) (.inl his)
        rw [if_neg (by omega)] at h4
        have h5 := hanc i hi j (by simpa using h4) hlw
        exact (hpw j oj hj hoj hs).1 h5
    unfold wpOp
    simp only [ho]
    unfold lstep at hst3
    split at hst3
    · rename_i hwt
      rw [hwant _ hwt, if_pos rfl]
      split at hst3
      · rename_i t ad xo hop
        have his : isStore o = true := by unfold isStore; rw [hop]
        split at hst3
        · rename_i h2 hsd
          simp only [Option.some.injEq, Prod.mk.injEq] at hst3
          obtain ⟨rfl, hh2⟩ := hst3
          rw [← here (.inl his)] at hsd
          obtain ⟨x', k1, k2, k3⟩ := storeD_sound sp (hread ad) (hread xo) hsd
          have hrun : (execOp a.eval o).run P x = .ok .skip x' := by
            simp only [execOp, hop, Sem.run_bind, k1]
            rfl
          refine .inl ?_
          unfold Oper.wp
          rw [hrun]
          exact next undef x' k2 trivial (goes his x' (by rw [← hh2]; exact k3))
        · cases hst3
      · rename_i hnst
        have hns : isStore o = false := by
          unfold isStore
          split
          · rename_i hop; exact absurd hop (hnst _ _ _)
          · rfl
        split at hst3
        · rename_i d' hsop
          simp only [Option.some.injEq, Prod.mk.injEq] at hst3
          obtain ⟨rfl, _⟩ := hst3
          have hsop' : sop P (lval l n ts (vs.take i) o) o (hst.getD p []) = some d' := by
            cases hld : isLoad o with
            | true => rw [here (.inr hld)]; exact hsop
            | false => rw [sop_still hld]; exact hsop
          obtain ⟨v, k1, k2⟩ := sop_sound sp hread hsop'
          exact .inl (wp_of_value k1 (next v x (Fw.refl _ _) k2 (stay hns)))
        · cases hst3
    · rename_i hwt
      rw [hwant _ hwt, if_neg (by simp)]
      simp only [Option.some.injEq, Prod.mk.injEq] at hst3
      obtain ⟨rfl, hh2⟩ := hst3
      refine next undef x (Fw.refl _ _) rfl ?_
      cases hso : isStore o with
      | false => exact stay hso
      | true => exact goes hso x (by rw [← hh2, ← here (.inl hso)]; exact sp)
    · cases hst3
  · -- the tail
    rintro a x I
    have hall : ∀ i, i < n → (doneA n (l.toArray.size - n)).getD i false = true := fun i hi => by
      unfold doneA
      simp [List.getElem?_append_left, hi]
    obtain ⟨p, hpn, hpw, sp⟩ := I.at_
    have hend : hst.getD n [] = hst.getD p [] := hst_same hspec hpn (Nat.le_refl _) fun j oj h1 h2 h3 => by
      cases hs : isStore oj with
      | false => rfl
      | true =>
        have := (hpw j oj h2 h3 hs).1 (hall j h2)
        omega
    have tfin : ∀ i, i ≤ n → RdL C x (lputs l vs i ts) ((putV l.toArray (fun k => match dstAt l k with | some t => a.tmps.getD t undef | none => undef) a0 i).tmps.toList) := by
      intro i
      induction i with
      | zero => intro _; exact (ta1.mono I.fw.toEv).rd
      | succ i ih0 =>
        intro hi
        have ih := ih0 (by omega)
        simp only [lputs, putV]
        have e0 : (l.toArray[i]?).bind (·.dst) = dstAt l i := getElem?_bind_toArray l i
        rw [e0]
        cases hdi : dstAt l i with
        | none => exact ih
        | some t =>
          obtain ⟨v, hv1, hv2⟩ := I.val i t (by omega) (hall i (by omega)) hdi
          have : a.tmps.getD t undef = v := by simp [hv1]
          simp only [putD, Act.put, this]
          simpa using RdL.set hv2 ih t
    have ea : a = putV l.toArray (fun k => match dstAt l k with | some t => a.tmps.getD t undef | none => undef) a0 n := by
      refine Fr.done (ops := l.toArray) (n := n) (m := ts.length) (listed := doneA n (l.toArray.size - n)) ⟨I.size, I.defers, fun t ht => I.other t fun i hi e' => ht i hi ((getElem?_bind_toArray l i).trans e'), fun i t hi hl ht => ?_⟩ hd hsz hall
      have ht' := (getElem?_bind_toArray l i).symm.trans ht
      obtain ⟨v, hv1, hv2⟩ := I.val i t hi (hall i hi) ht'
      simp [ht', hv1]
    have tan : TA C x (lputs l vs n ts) a := ⟨by rw [ea]; exact tfin n (Nat.le_refl _), I.defers.trans ta.defers⟩
    have hlist := hk _ _ _ (f1.trans I.fw) (by rw [hend]; exact sp) tan
    simpa using hlist
  · unfold leftH
    have : ((List.range n).filter fun i => !(Array.replicate l.toArray.size false).getD i true) = List.range n := List.filter_eq_self.2 fun i hi => by
      have := List.mem_range.1 hi
      have : i < l.length := by simp at hnsz; omega
      simp [this]
    rw [this, List.length_range]
theorem aline_sound {call : FuncId → List D → H → Option (D × H)} (hm : P.follows .mixedOrders = true) (hcall : CallOk P call) :
    ∀ l ts h ts' h', aline P call l ts h = some (ts', h') → ∀ (id : Nat) (C : Cx) (w : World) (a : Act) (Q : Exit → Act → World → Prop), Sim C h w → TA C w ts a →
    (∀ a' C' w', Fw C w C' w' → Sim C' h' w' → TA C' w' ts' a' → Q .normal a' w') → (Code.region id l.toArray true).wp P Q a w := by
  intro l ts h ts' h' e id C w a0 Q s ta hk
  unfold aline at e
  split at e
  · split at e
    · rename_i vs hst hr
      split at e
      · rename_i hst4
        obtain ⟨k1, k2, k3, k4⟩ := lrun_spec hr
        refine aline_core hm ⟨k1, k2, k3, k4⟩ hst4 id s ta fun a1 C1 w1 f1 s1 t1 => ?_
        exact alist_sound hcall e s1 t1 fun a' C' w' f' s' t' => hk a' C' w' (f1.trans f') s' t'
      · cases e
    · cases e
  · cases e
end
end Go.Proofs.Ytbfmaicoefefaaa.Pv
/-! ## Part 15 -/
namespace Go.Proofs.Ytbfmaicoefefaaa.Pv
open Go Go.RowKit
section
variable {P : Program}
theorem bare_sim {S : Nat → Nat → Prop} {w : World} (hS : Okay S w) : Sim (bare S) [] w :=
  ⟨hS, fun id t ds e => by simp at e, fun id e sz n e' => by simp at e', fun id b hb => by rcases hb with hb | ⟨u, hu, _⟩ <;> simp [bare] at *, fun id b hb => by simp [bare] at hb, fun id u hu => by simp [bare] at hu, fun id id' b hb => by rcases hb with hb | ⟨u, hu, _⟩ <;> simp [bare] at *, fun id b hb => by simp [bare] at hb, fun id b P e => by simp at e⟩
theorem bare_blk {S : Nat → Nat → Prop} {id b : Nat} : ¬ (bare S).blk id b := fun hb => by rcases hb with hb | ⟨u, hu, _⟩ <;> simp [bare] at *
theorem afun_yd {E : Env} (hE : EnvOk P E) {n : Nat} {k : FuncId} {ds : List D} {h' : H} {d d' : D} (e : afun P E n k ds [] = some (d, h')) (hd : pureD d = some d') : Yd P k ds d' := by
  intro S w args hS r
  refine ((afun_sound hE e).2 (bare S) w args (bare_sim hS) r).mono ?_
  rintro e' w' ⟨v, C', h1, f, s', h2⟩
  refine ⟨v, C'.S, h1, ⟨f.os, f.tape, f.output, f.size, fun b hb => f.frame b hb fun id => bare_blk⟩, f.sub, fun b o hs => ⟨s'.S b o hs, fun hb => ?_⟩, pureD_rd (C := C') (C' := bare C'.S) (fun _ _ h => h) d hd h2⟩
  rcases f.new b o hs hb with h3 | ⟨id, h3⟩
  · exact h3
  · exact absurd h3 bare_blk
structure Lay where
  penv : FuncId → List D → Option D
  call : FuncId → List D → H → Option (D × H)
  un : Nat → Option Un := fun _ => none
def tidyOf (un : Nat → Option Un) (k m : Nat) (ts : List D) (h : H) : List D × H :=
  match un k with
  | some u => unAll u m ts h
  | none => (ts, h)
theorem tidyOf_ok {un : Nat → Option Un} {k m : Nat} {ts : List D} {h : H} {C : Cx} {w : World} {a : Act} (s : Sim C h w) (ta : TA C w ts a) : Sim C (tidyOf un k m ts h).2 w ∧ TA C w (tidyOf un k m ts h).1 a := by
  unfold tidyOf
  split
  · exact unAll_ok s ta
  · exact ⟨s, ta⟩
def lineOp (o : Oper) : Bool :=
  match o.op with
  | .alloc .. | .box .. | .buildSlice .. | .makeSlice .. => false
  | .call c => match c.callee with
    | .builtin .append => false
    | .value _ => false
    | _ => true
  | _ => true
def lineFirst (l : List Oper) : Bool := l.any isStore && l.all lineOp
def firstOf {α : Type} (x y : Option α) : Option α :=
  match x with
  | some r => some r
  | none => y
def bothDraw (P : Program) (call : FuncId → List D → H → Option (D × H)) (penv : FuncId → List D → Option D) (l : List Oper) (ts : List D) (h : H) : Option (List D × H) :=
  if lineFirst l = true then firstOf (aline P call l ts h) (adraw P call penv l ts h) else firstOf (adraw P call penv l ts h) (aline P call l ts h)
theorem firstOf_some {α : Type} {x y : Option α} {r : α} (e : firstOf x y = some r) : x = some r ∨ y = some r := by
  unfold firstOf at e
  split at e
  · exact .inl (by rw [← e])
  · exact .inr e
theorem bothDraw_sound {call : FuncId → List D → H → Option (D × H)} {penv : FuncId → List D → Option D} (hm : P.follows .mixedOrders = true) (hcall : CallOk P call) (hp : PureOk P penv) :
    ∀ l ts h ts' h', bothDraw P call penv l ts h = some (ts', h') → ∀ (id : Nat) (C : Cx) (w : World) (a : Act) (Q : Exit → Act → World → Prop), Sim C h w → TA C w ts a →
    (∀ a' C' w', Fw C w C' w' → Sim C' h' w' → TA C' w' ts' a' → Q .normal a' w') → (Code.region id l.toArray true).wp P Q a w := by
  intro l ts h ts' h' e
  unfold bothDraw at e
  split at e
  · rcases firstOf_some e with e | e
    · exact aline_sound hm hcall l ts h ts' h' e
    · exact adraw_sound hm hcall hp l ts h _ _ e
  · rcases firstOf_some e with e | e
    · exact adraw_sound hm hcall hp l ts h _ _ e
    · exact aline_sound hm hcall l ts h ts' h' e
def Lay.env (P : Program) (L : Lay) : Env := ⟨L.call, bothDraw P L.call L.penv, tidyOf L.un⟩
def callOf (P : Program) (E : Env) (n : Nat) (penv : FuncId → List D → Option D) : FuncId → List D → H → Option (D × H) := fun k ds h => match pcall penv k ds with
  | some d => some (d, h)
  | none => afun P E n k ds h
def penvOf (P : Program) (E : Env) (n : Nat) (base : FuncId → List D → Option D) : FuncId → List D → Option D := fun k ds => match base k ds with
  | some d => some d
  | none => match afun P E n k ds [] with
    | some (d, _) => pureD d
    | none => none
def lay (P : Program) (base : FuncId → List D → Option D) (m : Nat) : Nat → Lay
  | 0 => { penv := base, call := fun k ds h => match pcall base k ds with | some d => some (d, h) | none => none }
  | n + 1 =>
    let E := (lay P base m n).env P
    { penv := penvOf P E m base, call := callOf P E m (penvOf P E m base) }
theorem pcall_ok {penv : FuncId → List D → Option D} (hp : PureOk P penv) {k : FuncId} {ds : List D} {d : D} (e : pcall penv k ds = some d) : Callable P k ∧ ∀ (C : Cx) (h : H) (w : World) (args : List Value), Sim C h w → RdL C w ds args → Ret P C w k args d h := by
  unfold pcall at e
  split at e
  · rename_i es hes
    split at e
    · rename_i d0 hd
      refine ⟨hp.can k es d0 hd, fun C h w args s r => ?_⟩
      refine (hp.ok k es d0 hd C.S w args s.S (pureL_rd (C := C) (C' := bare C.S) (fun _ _ h => h) ds hes r)).mono ?_
      rintro e' w' ⟨v, S', h1, h2, h3, h4, h5⟩
      obtain ⟨f, s'⟩ := Fw.pure s h2 h4
      exact ⟨v, _, h1, f, s', pureD_rd (C := bare S') (C' := { C with S := fun b o => C.S b o ∨ S' b o }) (fun _ _ h => Or.inr h) d0 e h5⟩
    · cases e
  · cases e
theorem penvOf_ok {E : Env} (hE : EnvOk P E) {n : Nat} {base : FuncId → List D → Option D} (hb : PureOk P base) : PureOk P (penvOf P E n base) := by
  refine ⟨fun k ds d e => ?_, fun k ds d e => ?_⟩
  · unfold penvOf at e
    split at e
    · rename_i d0 h0
      exact hb.can k ds d0 h0
    · split at e
      · rename_i d0 h' h0
        exact (afun_sound hE h0).1
      · cases e
  · unfold penvOf at e
    split at e
    · rename_i d0 h0
      cases e
      exact hb.ok k ds _ h0
    · split at e
      · rename_i d0 h' h0
        exact afun_yd hE h0 e
      · cases e
theorem lay_ok (hm : P.follows .mixedOrders = true) {base : FuncId → List D → Option D} (hb : PureOk P base) (m : Nat) : ∀ n, PureOk P (lay P base m n).penv ∧ CallOk P (lay P base m n).call
  | 0 => by
    refine ⟨hb, ⟨fun k ds h d h' e => ?_, fun k ds h d h' e C w args s r => ?_⟩⟩
    · simp only [lay] at e
      split at e
      · rename_i d0 h0
        exact (pcall_ok hb h0).1
      · cases e
    · simp only [lay] at e
      split at e
      · rename_i d0 h0
        cases e
        exact (pcall_ok hb h0).2 C _ w args s r
      · cases e
  | n + 1 => by
    obtain ⟨h1, h2⟩ := lay_ok hm hb m n
    have hE : EnvOk P ((lay P base m n).env P) := ⟨h2, fun _ _ _ _ _ _ _ s ta => tidyOf_ok s ta, fun l ts h ts' h' e => bothDraw_sound hm h2 h1 l ts h ts' h' e⟩
    have hp := penvOf_ok hE (n := m) hb
    refine ⟨hp, ⟨fun k ds h d h' e => ?_, fun k ds h d h' e C w args s r => ?_⟩⟩
    · simp only [lay, callOf] at e
      split at e
      · rename_i d0 h0
        exact (pcall_ok hp h0).1
      · exact (afun_sound hE e).1
    · simp only [lay, callOf] at e
      split at e
      · rename_i d0 h0
        cases e
        exact (pcall_ok hp h0).2 C _ w args s r
      · exact (afun_sound hE e).2 C w args s r
theorem env_ok (hm : P.follows .mixedOrders = true) {base : FuncId → List D → Option D} (hb : PureOk P base) (m n : Nat) : EnvOk P ((lay P base m n).env P) := by
  obtain ⟨h1, h2⟩ := lay_ok hm hb m n
  exact ⟨h2, fun _ _ _ _ _ _ _ s ta => tidyOf_ok s ta, fun l ts h ts' h' e => bothDraw_sound hm h2 h1 l ts h ts' h' e⟩
/-- The same, where some loops forget whose rows they are. -/
theorem env_ok_un (hm : P.follows .mixedOrders = true) {base : FuncId → List D → Option D} (hb : PureOk P base) (m n : Nat) (un : Nat → Option Un) : EnvOk P (({ lay P base m n with un := un } : Lay).env P) := by
  obtain ⟨h1, h2⟩ := lay_ok hm hb m n
  exact ⟨h2, fun _ _ _ _ _ _ _ s ta => tidyOf_ok s ta, fun l ts h ts' h' e => bothDraw_sound hm h2 h1 l ts h ts' h' e⟩
/-! ### A base out of contracts -/
def noBase : FuncId → List D → Option D := fun _ _ => none
theorem noBase_ok : PureOk P noBase := ⟨fun _ _ _ e => (by cases e), fun _ _ _ e => (by cases e)⟩
open Classical in
noncomputable def famOf {α : Type} (key : α → List D) (val : α → D) (ds : List D) : Option D := if h : ∃ x, key x = ds then some (val h.choose) else none
theorem famOf_eq {α : Type} {key : α → List D} {val : α → D} (hinj : ∀ x y, key x = key y → val x = val y) (x : α) : famOf key val (key x) = some (val x) := by
  unfold famOf
  have h : ∃ y, key y = key x := ⟨x, rfl⟩
  rw [dif_pos h]
  exact congrArg some (hinj _ _ h.choose_spec)
theorem famOf_some {α : Type} {key : α → List D} {val : α → D} {ds : List D} {d : D} (e : famOf key val ds = some d) : ∃ x, key x = ds ∧ val x = d := by
  unfold famOf at e
  split at e
  · rename_i h
    cases e
    exact ⟨h.choose, h.choose_spec, rfl⟩
  · cases e
/-- One function's contract, in front of a base. -/
noncomputable def withFam {α : Type} (f : FuncId) (key : α → List D) (val : α → D) (base : FuncId → List D → Option D) : FuncId → List D → Option D := fun k ds => if k = f then famOf key val ds else base k ds
theorem withFam_ok {α : Type} {f : FuncId} {key : α → List D} {val : α → D} {base : FuncId → List D → Option D} (hc : Callable P f) (hy : ∀ x, Yd P f (key x) (val x)) (hb : PureOk P base) : PureOk P (withFam f key val base) := by
  refine ⟨fun k ds d e => ?_, fun k ds d e => ?_⟩
  · unfold withFam at e
    split at e
    · rename_i h; subst h; exact hc
    · exact hb.can k ds d e
  · unfold withFam at e
    split at e
    · rename_i h
      subst h
      obtain ⟨x, rfl, rfl⟩ := famOf_some e
      exact hy x
    · exact hb.ok k ds d e
end
end Go.Proofs.Ytbfmaicoefefaaa.Pv
/-! ## Part 17 -/
namespace Go.Proofs.Ytbfmaicoefefaaa.Pv
open Go Go.RowKit
/-! ### Runs over unknown data: where the run would be stuck, the answer is given, and told as a duty -/
structure Orc where
  ov : Nat → Nat → Option D
  op : Nat → Nat → Option (D × H)
  hd : Nat → Nat → Option HD
  br : Nat → Option Bool
  lp : Nat → Option (AExit × List D × H)
  rg : Nat → Option (List D × H)
def Orc.none : Orc := ⟨fun _ _ => .none, fun _ _ => .none, fun _ _ => .none, fun _ => .none, fun _ => .none, fun _ => .none⟩
def Orc.opAt (O : Orc) (r i : Nat) (h : H) : Option (D × H) :=
  match O.op r i with
  | some x => some x
  | .none => match O.ov r i with
    | some d => some (d, h)
    | .none => .none
def Orc.hdAt (O : Orc) (r i : Nat) : Option HD :=
  match O.hd r i with
  | some x => some x
  | .none => match O.ov r i with
    | some d => some (.d d)
    | .none => .none
section
variable {P : Program}
def astep (P : Program) (call : FuncId → List D → H → Option (D × H)) (ops : Array Oper) (ts : List D) (h : H) (o : Oper) : Option (D × H) :=
  match wantedD ops ts o with
  | some true => aop P call (ownB ops o) (dv ts) o h
  | some false => some (.raw undef, h)
  | none => none
theorem alist_step {call : FuncId → List D → H → Option (D × H)} {ops : Array Oper} {ts : List D} {h h' : H} {o : Oper} {rest : List Oper} {d : D} (e : astep P call ops ts h o = some (d, h')) :
    alist P call ops (o :: rest) ts h = alist P call ops rest (putD ts o.dst d) h' := by
  unfold astep at e
  simp only [alist]
  split at e
  · rename_i hw
    rw [hw]
    simp only [e]
  · rename_i hw
    rw [hw]
    cases e
    rfl
  · cases e
def alistA (P : Program) (call : FuncId → List D → H → Option (D × H)) (orc : Nat → H → Option (D × H)) (ops : Array Oper) : List Oper → Nat → List D → H → Option ((List D × H) × Prop)
  | [], _, ts, h => some ((ts, h), True)
  | o :: rest, i, ts, h => match orc i h with
    | some (d, h') => match alistA P call orc ops rest (i + 1) (putD ts o.dst d) h' with
      | some (r, c) => some (r, astep P call ops ts h o = some (d, h') ∧ c)
      | none => none
    | none => match astep P call ops ts h o with
      | some (d, h') => alistA P call orc ops rest (i + 1) (putD ts o.dst d) h'
      | none => none
theorem alistA_ok {call : FuncId → List D → H → Option (D × H)} {orc : Nat → H → Option (D × H)} {ops : Array Oper} : ∀ {l : List Oper} {i : Nat} {ts : List D} {h : H} {r : List D × H} {c : Prop}, alistA P call orc ops l i ts h = some (r, c) → c → alist P call ops l ts h = some r
  | [], i, ts, h, r, c, e, _ => by simp only [alistA, Option.some.injEq, Prod.mk.injEq] at e; rw [← e.1]; rfl
  | o :: rest, i, ts, h, r, c, e, hc => by
    simp only [alistA] at e
    split at e
    · split at e
      · rename_i r' c' he
        simp only [Option.some.injEq, Prod.mk.injEq] at e
        obtain ⟨rfl, rfl⟩ := e
        rw [alist_step hc.1]
        exact alistA_ok he hc.2
      · cases e
    · split at e
      · rename_i d h' he
        rw [alist_step he]
        exact alistA_ok e hc
      · cases e
def hrunA (P : Program) (penv : FuncId → List D → Option D) (orc : Nat → Option HD) (l : List Oper) (n : Nat) (ts : List D) (h : H) : Nat → Option (List HD × Prop)
  | 0 => some ([], True)
  | i + 1 => match hrunA P penv orc l n ts h i, l[i]? with
    | some (hs, c), some o => match orc i with
      | some d => some (hs ++ [d], hstep P penv l n ts h hs o = some d ∧ c)
      | none => match hstep P penv l n ts h hs o with
        | some d => some (hs ++ [d], c)
        | none => none
    | _, _ => none
theorem hrunA_ok {penv : FuncId → List D → Option D} {orc : Nat → Option HD} {l : List Oper} {n : Nat} {ts : List D} {h : H} : ∀ {m : Nat} {hs : List HD} {c : Prop}, hrunA P penv orc l n ts h m = some (hs, c) → c → hrun P penv l n ts h m = some hs
  | 0, hs, c, e, _ => by simp only [hrunA, Option.some.injEq, Prod.mk.injEq] at e; rw [← e.1]; rfl
  | m + 1, hs, c, e, hc => by
    simp only [hrunA] at e
    split at e
    · rename_i hs0 c0 o h1 h2
      split at e
      · rename_i d hd
        simp only [Option.some.injEq, Prod.mk.injEq] at e
        obtain ⟨rfl, rfl⟩ := e
        simp only [hrun, hrunA_ok h1 hc.2, h2, hc.1]
      · split at e
        · rename_i d hd
          simp only [Option.some.injEq, Prod.mk.injEq] at e
          obtain ⟨rfl, rfl⟩ := e
          simp only [hrun, hrunA_ok h1 hc, h2, hd]
        · cases e
    · cases e
def lrunA (P : Program) (orc : Nat → H → Option (D × H)) (l : List Oper) (n : Nat) (ts : List D) (h : H) : Nat → Option ((List D × List H) × Prop)
  | 0 => some (([], [h]), True)
  | i + 1 => match lrunA P orc l n ts h i, l[i]? with
    | some ((vs, hst), c), some o => match orc i (hst.getD i []) with
      | some (d, h') => some ((vs ++ [d], hst ++ [h']), lstep P l n ts vs (hst.getD i []) o = some (d, h') ∧ c)
      | none => match lstep P l n ts vs (hst.getD i []) o with
        | some (d, h') => some ((vs ++ [d], hst ++ [h']), c)
        | none => none
    | _, _ => none
theorem lrunA_ok {orc : Nat → H → Option (D × H)} {l : List Oper} {n : Nat} {ts : List D} {h : H} : ∀ {m : Nat} {r : List D × List H} {c : Prop}, lrunA P orc l n ts h m = some (r, c) → c → lrun P l n ts h m = some r
  | 0, r, c, e, _ => by simp only [lrunA, Option.some.injEq, Prod.mk.injEq] at e; rw [← e.1]; rfl
  | m + 1, r, c, e, hc => by
    simp only [lrunA] at e
    split at e
    · rename_i vs hst c0 o h1 h2
      split at e
      · rename_i d h' hd
        simp only [Option.some.injEq, Prod.mk.injEq] at e
        obtain ⟨rfl, rfl⟩ := e
        simp only [lrun, lrunA_ok h1 hc.2, h2, hc.1]
      · split at e
        · rename_i d h' hd
          simp only [Option.some.injEq, Prod.mk.injEq] at e
          obtain ⟨rfl, rfl⟩ := e
          simp only [lrun, lrunA_ok h1 hc, h2, hd]
        · cases e
    · cases e
def adrawA (P : Program) (call : FuncId → List D → H → Option (D × H)) (penv : FuncId → List D → Option D) (oh : Nat → Option HD) (oo : Nat → H → Option (D × H)) (l : List Oper) (ts : List D) (h : H) : Option ((List D × H) × Prop) :=
  match findHead l (l.length + 1) 0 with
  | some n => match hrunA P penv oh l n ts h n with
    | some (hs, c) => if staticB l n ts.length hs = true then
        match alistA P call oo l.toArray (l.drop n) n (hfin l n hs (deadB l n hs) n ts h).1 (hfin l n hs (deadB l n hs) n ts h).2 with
        | some (r, c') => some (r, c ∧ c')
        | none => none
      else none
    | none => none
  | none => none
theorem adrawA_ok {call : FuncId → List D → H → Option (D × H)} {penv : FuncId → List D → Option D} {oh : Nat → Option HD} {oo : Nat → H → Option (D × H)} {l : List Oper} {ts : List D} {h : H} {r : List D × H} {c : Prop} (e : adrawA P call penv oh oo l ts h = some (r, c)) (hc : c) : adraw P call penv l ts h = some r := by
  unfold adrawA at e
  unfold adraw
  split at e
  · rename_i n hn
    split at e
    · rename_i hs c1 h1
      split at e
      · rename_i hb
        split at e
        · rename_i r' c2 h2
          simp only [Option.some.injEq, Prod.mk.injEq] at e
          obtain ⟨rfl, rfl⟩ := e
          simp only [hn, hrunA_ok h1 hc.1, if_pos hb]
          exact alistA_ok h2 hc.2
        · cases e
      · cases e
    · cases e
  · cases e
def alineA (P : Program) (call : FuncId → List D → H → Option (D × H)) (oo : Nat → H → Option (D × H)) (l : List Oper) (ts : List D) (h : H) : Option ((List D × H) × Prop) :=
  match findHead l (l.length + 1) 0 with
  | some n => match lrunA P oo l n ts h n with
    | some ((vs, hst), c) => if headB .any l.toArray n = true ∧ dstsB l.toArray n ts.length = true ∧ waitsB l n = true ∧ ordB l n = true then
        match alistA P call oo l.toArray (l.drop n) n (lputs l vs n ts) (hst.getD n []) with
        | some (r, c') => some (r, c ∧ c')
        | none => none
      else none
    | none => none
  | none => none
theorem alineA_ok {call : FuncId → List D → H → Option (D × H)} {oo : Nat → H → Option (D × H)} {l : List Oper} {ts : List D} {h : H} {r : List D × H} {c : Prop} (e : alineA P call oo l ts h = some (r, c)) (hc : c) : aline P call l ts h = some r := by
  unfold alineA at e
  unfold aline
  split at e
  · rename_i n hn
    split at e
    · rename_i vs hst c1 h1
      split at e
      · rename_i hb
        split at e
        · rename_i r' c2 h2
          simp only [Option.some.injEq, Prod.mk.injEq] at e
          obtain ⟨rfl, rfl⟩ := e
          simp only [hn, lrunA_ok h1 hc.1, if_pos hb]
          exact alistA_ok h2 hc.2
        · cases e
      · cases e
    · cases e
  · cases e
def drA (P : Program) (L : Lay) (oh : Nat → Option HD) (oo : Nat → H → Option (D × H)) (l : List Oper) (ts : List D) (h : H) : Option ((List D × H) × Prop) :=
  if lineFirst l = true then alineA P L.call oo l ts h else adrawA P L.call L.penv oh oo l ts h
theorem drA_ok {L : Lay} {oh : Nat → Option HD} {oo : Nat → H → Option (D × H)} {l : List Oper} {ts : List D} {h : H} {r : List D × H} {c : Prop} (e : drA P L oh oo l ts h = some (r, c)) (hc : c) : bothDraw P L.call L.penv l ts h = some r := by
  unfold drA at e
  unfold bothDraw
  split at e
  · rename_i hl
    rw [if_pos hl, alineA_ok e hc]
    rfl
  · rename_i hl
    rw [if_neg hl, adrawA_ok e hc]
    rfl
def aexecA (P : Program) (L : Lay) (n : Nat) (O : Orc) : Code → List D → H → Option ((AExit × List D × H) × Prop)
  | .skip, ts, h => some ((.normal, ts, h), True)
  | .region id ops draw, ts, h => if draw = true then
      match O.rg id with
      | some (ts', h') => some ((.normal, ts', h'), bothDraw P L.call L.penv ops.toList ts h = some (ts', h'))
      | none => match drA P L (O.hdAt id) (O.opAt id) ops.toList ts h with
        | some ((ts', h'), c) => some ((.normal, ts', h'), c)
        | none => none
    else match alistA P L.call (O.opAt id) ops ops.toList 0 ts h with
      | some ((ts', h'), c) => some ((.normal, ts', h'), c)
      | none => none
  | .seq a b, ts, h => match aexecA P L n O a ts h with
    | some ((.normal, ts', h'), c) => match aexecA P L n O b ts' h' with
      | some (r, c') => some (r, c ∧ c')
      | none => none
    | r => r
  | .cond c x y, ts, h => match (match c with | .tmp t => O.br t | _ => none) with
    | some b => match (if b = true then aexecA P L n O x ts h else aexecA P L n O y ts h) with
      | some (r, c') => some (r, dv ts c = .raw (.bool b) ∧ c')
      | none => none
    | none => match dv ts c with
      | .raw (.bool t) => if t = true then aexecA P L n O x ts h else aexecA P L n O y ts h
      | _ => none
  | .block id c, ts, h => match aexecA P L n O c ts h with
    | some ((.exit j, ts', h'), c) => if j = id then some ((.normal, ts', h'), c) else some ((.exit j, ts', h'), c)
    | r => r
  | .loop c, ts, h => match O.lp (loopKey c) with
    | some r => some (r, aexec P (L.env P) n (.loop c) ts h = some r)
    | none => match aexec P (L.env P) n (.loop c) ts h with
      | some r => some (r, True)
      | none => none
  | .exit id, ts, h => some ((.exit id, ts, h), True)
  | .label _, ts, h => some ((.normal, ts, h), True)
  | .ret, ts, h => some ((.ret, ts, h), True)
  | _, _, _ => none
theorem aexecA_ok {L : Lay} {n : Nat} {O : Orc} : ∀ {c : Code} {ts : List D} {h : H} {r : AExit × List D × H} {p : Prop}, aexecA P L n O c ts h = some (r, p) → p → aexec P (L.env P) n c ts h = some r := by
  intro c
  induction c with
  | skip => intro ts h r p e _; simp only [aexecA, Option.some.injEq, Prod.mk.injEq] at e; rw [← e.1]; rfl
  | region id ops draw =>
    intro ts h r p e hp
    simp only [aexecA] at e
    simp only [aexec]
    cases draw with
    | true =>
      rw [if_pos rfl] at e ⊢
      show (match bothDraw P L.call L.penv ops.toList ts h with | some (ts', h') => some (AExit.normal, ts', h') | none => none) = some r
      split at e
      · simp only [Option.some.injEq, Prod.mk.injEq] at e
        obtain ⟨rfl, rfl⟩ := e
        rw [hp]
      · split at e
        · rename_i ts' h' c' he
          simp only [Option.some.injEq, Prod.mk.injEq] at e
          obtain ⟨rfl, rfl⟩ := e
          rw [drA_ok he hp]
        · cases e
    | false =>
      rw [if_neg (by simp)] at e ⊢
      show (match alist P L.call ops ops.toList ts h with | some (ts', h') => some (AExit.normal, ts', h') | none => none) = some r
      split at e
      · rename_i ts' h' c' he
        simp only [Option.some.injEq, Prod.mk.injEq] at e
        obtain ⟨rfl, rfl⟩ := e
        rw [alistA_ok he hp]
      · cases e
  | seq a b iha ihb =>
    intro ts h r p e hp
    simp only [aexecA] at e
    simp only [aexec]
    split at e
    · rename_i ts' h' c' he
      split at e
      · rename_i r2 c2 h2
        simp only [Option.some.injEq, Prod.mk.injEq] at e
        obtain ⟨rfl, rfl⟩ := e
        rw [iha he hp.1]
        exact ihb h2 hp.2
      · cases e
    · rename_i hn
      obtain ⟨ex, ts', h'⟩ := r
      rw [iha e hp]
      cases ex with
      | normal => exact absurd e (hn _ _ _)
      | exit j => rfl
      | ret => rfl
  | cond c x y ihx ihy =>
    intro ts h r p e hp
    simp only [aexecA] at e
    simp only [aexec]
    split at e
    · rename_i b hb
      split at e
      · rename_i r' c' he
        simp only [Option.some.injEq, Prod.mk.injEq] at e
        obtain ⟨rfl, rfl⟩ := e
        rw [hp.1]
        cases b with
        | true => rw [if_pos rfl] at he; simp only [if_true]; exact ihx he hp.2
        | false => rw [if_neg (by simp)] at he; simp only [Bool.false_eq_true, if_false]; exact ihy he hp.2
      · cases e
    · split at e
      · rename_i t ht
        simp only [ht]
        cases t with
        | true => rw [if_pos rfl] at e; simp only [if_true]; exact ihx e hp
        | false => rw [if_neg (by simp)] at e; simp only [Bool.false_eq_true, if_false]; exact ihy e hp
      · cases e
  | block id c ih =>
    intro ts h r p e hp
    simp only [aexecA] at e
    simp only [aexec]
    split at e
    · rename_i j ts' h' c' he
      split at e
      · rename_i hj
        simp only [Option.some.injEq, Prod.mk.injEq] at e
        obtain ⟨rfl, rfl⟩ := e
        rw [ih he hp]
        simp only [if_pos hj]
      · rename_i hj
        simp only [Option.some.injEq, Prod.mk.injEq] at e
        obtain ⟨rfl, rfl⟩ := e
        rw [ih he hp]
        simp only [if_neg hj]
    · rename_i hn
      obtain ⟨ex, ts', h'⟩ := r
      rw [ih e hp]
      cases ex with
      | exit j => exact absurd e (hn _ _ _ _)
      | normal => rfl
      | ret => rfl
  | loop c ih =>
    intro ts h r p e hp
    simp only [aexecA] at e
    split at e
    · simp only [Option.some.injEq, Prod.mk.injEq] at e
      obtain ⟨rfl, rfl⟩ := e
      exact hp
    · split at e
      · rename_i r' he
        simp only [Option.some.injEq, Prod.mk.injEq] at e
        obtain ⟨rfl, rfl⟩ := e
        exact he
      · cases e
  | exit id => intro ts h r p e _; simp only [aexecA, Option.some.injEq, Prod.mk.injEq] at e; rw [← e.1]; rfl
  | label s => intro ts h r p e _; simp only [aexecA, Option.some.injEq, Prod.mk.injEq] at e; rw [← e.1]; rfl
  | ret => intro ts h r p e _; simp only [aexecA, Option.some.injEq, Prod.mk.injEq] at e; rw [← e.1]; rfl
  | _ => intros; rename_i e _; simp [aexecA] at e
def afunA (P : Program) (L : Lay) (n : Nat) (O : Orc) (k : FuncId) (ds : List D) (h : H) : Option ((D × H) × Prop) :=
  match P.funcs[k]? with
  | some fn => match fn.body with
    | some c => if (fn.name == "runtime.NumGoroutine") = false then
        match aexecA P L n O c (ds ++ List.replicate (fn.ntmps - ds.length) (.raw undef)) h with
        | some (r, p) => match aret P fn (some r) with
          | some x => some (x, p)
          | none => none
        | none => none
      else none
    | none => none
  | none => none
theorem afunA_ok {L : Lay} {n : Nat} {O : Orc} {k : FuncId} {ds : List D} {h : H} {r : D × H} {p : Prop} (e : afunA P L n O k ds h = some (r, p)) (hp : p) : afun P (L.env P) n k ds h = some r := by
  unfold afunA at e
  unfold afun
  split at e
  · rename_i fn hfn
    split at e
    · rename_i c hc
      split at e
      · rename_i hn
        split at e
        · rename_i r' p' he
          split at e
          · rename_i x hx
            simp only [Option.some.injEq, Prod.mk.injEq] at e
            obtain ⟨rfl, rfl⟩ := e
            simp only [hfn, hc, if_pos hn, aexecA_ok he hp, hx]
          · cases e
        · cases e
      · cases e
    · cases e
  · cases e
/-! ### Loops: the states after each round -/
theorem aloop_rounds {step : List D → H → Res} {T : Nat → List D × H → Prop} {N : Nat} {r : AExit × List D × H} (hr : r.1 ≠ .normal)
    (hs : ∀ i, i < N → ∀ ts h, T i (ts, h) → ∃ ts' h', step ts h = some (.normal, ts', h') ∧ T (i + 1) (ts', h')) (he : ∀ ts h, T N (ts, h) → step ts h = some r) :
    ∀ (m i n : Nat) (ts : List D) (h : H), i + m = N → m < n → T i (ts, h) → aloop step n ts h = some r
  | 0, i, n, ts, h, hi, hn, ht => by
    obtain ⟨k, rfl⟩ : ∃ k, n = k + 1 := ⟨n - 1, by omega⟩
    have : i = N := by omega
    subst this
    simp only [aloop, he ts h ht]
    obtain ⟨ex, ts', h'⟩ := r
    cases ex with
    | normal => exact absurd rfl hr
    | _ => rfl
  | m + 1, i, n, ts, h, hi, hn, ht => by
    obtain ⟨k, rfl⟩ : ∃ k, n = k + 1 := ⟨n - 1, by omega⟩
    obtain ⟨ts', h', h1, h2⟩ := hs i (by omega) ts h ht
    simp only [aloop, h1]
    exact aloop_rounds hr hs he m (i + 1) k ts' h' (by omega) (by omega) h2
/-- A loop: 'T i' and 'G i' are what the temps and the boxes come to ahead of round i. -/
theorem loop_rounds {E : Env} {n N : Nat} {c : Code} {ts : List D} {h : H} {r : AExit × List D × H} (T : Nat → List D) (G : Nat → H) (hr : r.1 ≠ .normal) (hn : N < n)
    (h0 : (E.tidy (loopKey c) h.length (scrub (dstsOf c) ts) h).1 = T 0) (hg : gc h.length (T 0) (E.tidy (loopKey c) h.length (scrub (dstsOf c) ts) h).2 = G 0)
    (hs : ∀ i, i < N → ∃ ts' h', aexec P E n c (T i) (G i) = some (.normal, ts', h') ∧ (E.tidy (loopKey c) h.length (scrub (dstsOf c) ts') h').1 = T (i + 1) ∧ gc h.length (T (i + 1)) (E.tidy (loopKey c) h.length (scrub (dstsOf c) ts') h').2 = G (i + 1))
    (he : aexec P E n c (T N) (G N) = some r) : aexec P E n (.loop c) ts h = some r := by
  simp only [aexec]
  refine aloop_rounds (N := N) (T := fun i x => (E.tidy (loopKey c) h.length (scrub (dstsOf c) x.1) x.2).1 = T i ∧ gc h.length (T i) (E.tidy (loopKey c) h.length (scrub (dstsOf c) x.1) x.2).2 = G i) hr (fun i hi ts1 h1 ht => ?_) (fun ts1 h1 ht => ?_) N 0 n ts h (by omega) hn ⟨h0, hg⟩
  · obtain ⟨k1, k2⟩ := ht
    obtain ⟨ts', h', j1, j2, j3⟩ := hs i hi
    simp only at k1 k2
    simp only [k1, k2]
    exact ⟨ts', h', j1, j2, j3⟩
  · obtain ⟨k1, k2⟩ := ht
    simp only at k1 k2
    simp only [k1, k2]
    exact he
/-- The loop's body, found by the temp that it writes first. -/
def loopBody : Code → Nat → Option Code
  | .seq a b, k => match loopBody a k with | some c => some c | none => loopBody b k
  | .cond _ a b, k => match loopBody a k with | some c => some c | none => loopBody b k
  | .block _ c, k => loopBody c k
  | .loop c, k => if loopKey c = k then some c else loopBody c k
  | _, _ => none
end
end Go.Proofs.Ytbfmaicoefefaaa.Pv
