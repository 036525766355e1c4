/- The evaluator over data (see NOTES, 'Pv'): part Pv10. -/
import Derived.StillTail
import Derived.Below
import Derived.WalkKit
namespace Go.Proofs.Ytclhomkgphdagaa.Pv
open Go Go.RowKit
section
variable {P : Program} {ops : Array Oper} {md : Region.Mode}
/-- What binds an operation stands ahead of it. -/
def aheadB (md : Region.Mode) (ops : Array Oper) : Bool :=
  (List.range ops.size).all fun i => match ops[i]? with
    | some o => o.after.all fun e => !Region.binds md e || decide (e.on < i)
    | none => true
theorem aheadB_spec (h : aheadB md ops = true) {i : Nat} {o : Oper} (hi : ops[i]? = some o) : ∀ e ∈ o.after, Region.binds md e = true → e.on < i := by
  intro e he hb
  have h1 := List.all_eq_true.1 h i (List.mem_range.2 (Array.getElem?_eq_some_iff.1 hi).1)
  rw [hi] at h1
  have h2 := Array.all_eq_true'.1 h1 e he
  rw [hb] at h2
  simpa using h2
def doneA (n m : Nat) : Array Bool := (List.replicate n true ++ List.replicate m false).toArray
def headB (md : Region.Mode) (ops : Array Oper) (n : Nat) : Bool :=
  aheadB md ops && decide (n ≤ ops.size) && (decide (n = ops.size) || (decide (n < ops.size) && Region.sinkB md ops n && Region.chainB md ops n)) && Region.seqB md ops (ops.size - n) n (doneA n (ops.size - n))
theorem filter_drop {p q : Nat → Bool} {i : Nat} (hp : p i = true) (hq : q i = false) (he : ∀ j, j ≠ i → q j = p j) : ∀ l : List Nat, l.Nodup → i ∈ l → (l.filter q).length + 1 = (l.filter p).length
  | [], _, h => by simp at h
  | x :: l, hn, h => by
    obtain ⟨hx, hl⟩ := List.nodup_cons.1 hn
    by_cases hxi : x = i
    · subst hxi
      rw [List.filter_cons_of_pos hp, List.filter_cons_of_neg (by simp [hq])]
      have : l.filter q = l.filter p := List.filter_congr fun j hj => he j fun e => hx (e ▸ hj)
      rw [this, List.length_cons]
    · have hil : i ∈ l := (List.mem_cons.1 h).resolve_left (fun e => hxi e.symm)
      have ih := filter_drop hp hq he l hl hil
      have e := he x hxi
      cases hpx : p x with
      | true =>
        rw [List.filter_cons_of_pos hpx, List.filter_cons_of_pos (by rw [e, hpx]), List.length_cons, List.length_cons]
        omega
      | false =>
        rw [List.filter_cons_of_neg (by rw [e, hpx]; simp), List.filter_cons_of_neg (by rw [hpx]; simp)]
        exact ih
def leftH (n : Nat) (listed : Array Bool) : Nat := ((List.range n).filter fun i => !listed.getD i true).length
theorem leftH_set {n i : Nat} {listed : Array Bool} (hi : i < n) (hs : i < listed.size) (hun : listed.getD i true = false) : leftH n (listed.setIfInBounds i true) + 1 = leftH n listed := by
  refine filter_drop (i := i) (by simp [hun]) ?_ (fun j hj => ?_) _ List.nodup_range (List.mem_range.2 hi)
  · simp [hs]
  · rw [getD_set_ne true (fun e => hj e.symm)]
theorem done_of {n : Nat} {listed : Array Bool} (inv : HeadInv md ops n listed) (hn : n ≤ ops.size) (h0 : leftH n listed = 0) : listed = doneA n (ops.size - n) := by
  have hall : ∀ i, i < n → listed.getD i true = true := fun i hi => by
    cases h : listed.getD i true with
    | true => rfl
    | false =>
      have : i ∈ (List.range n).filter fun i => !listed.getD i true := List.mem_filter.2 ⟨List.mem_range.2 hi, by simp [h]⟩
      rw [List.length_eq_zero_iff.1 h0] at this
      cases this
  apply Array.ext_getElem?
  intro i
  have e : (doneA n (ops.size - n))[i]? = (List.replicate n true ++ List.replicate (ops.size - n) false)[i]? := by
    unfold doneA
    exact List.getElem?_toArray
  rw [e]
  by_cases hi : i < n
  · have h1 := hall i hi
    have hs : i < listed.size := by rw [inv.size]; omega
    rw [List.getElem?_append_left (by simpa using hi), List.getElem?_replicate_of_lt hi]
    simp [hs] at h1 ⊢
    exact h1
  · by_cases hi2 : i < ops.size
    · have h1 := inv.tail i (by omega) hi2
      have hs : i < listed.size := by rw [inv.size]; omega
      rw [List.getElem?_append_right (by simp; omega), List.length_replicate, List.getElem?_replicate_of_lt (by omega)]
      simp [hs] at h1 ⊢
      exact h1
    · rw [Array.getElem?_eq_none (by rw [inv.size]; omega), List.getElem?_eq_none (by simp; omega)]
theorem least_false {n : Nat} {p : Nat → Bool} : (∃ i, i < n ∧ p i = false) → ∃ i, i < n ∧ p i = false ∧ ∀ j, j < i → p j = true := by
  rintro ⟨i, hi, hp⟩
  induction i using Nat.strongRecOn with
  | _ i ih =>
    by_cases h : ∃ j, j < i ∧ p j = false
    · obtain ⟨j, hj, hpj⟩ := h
      exact ih j hj (by omega) hpj
    · refine ⟨i, hi, hp, fun j hj => ?_⟩
      cases hpj : p j with
      | true => rfl
      | false => exact absurd ⟨j, hj, hpj⟩ h
theorem wpAny_inv {n : Nat} {Q : Exit → Act → World → Prop} {Inv : Array Bool → Act → World → Prop} (hB : headB md ops n = true)
    (hs : ∀ listed a w i, HeadInv md ops n listed → i ∈ Region.ready md ops listed → i < n → Inv listed a w → wpOp P ops Q i (Inv (listed.setIfInBounds i true)) a w)
    (hE : ∀ a w, Inv (doneA n (ops.size - n)) a w → wpList P ops Q (ops.toList.drop n) a w) :
    ∀ (f : Nat) (listed : Array Bool) (a : Act) (w : World), HeadInv md ops n listed → leftH n listed = f → Inv listed a w → wpAny P md ops Q (f + (ops.size - n)) listed a w := by
  simp only [headB, Bool.and_eq_true, Bool.or_eq_true, decide_eq_true_eq] at hB
  obtain ⟨⟨⟨hah, hn⟩, hsink⟩, hseq⟩ := hB
  intro f
  induction f with
  | zero =>
    intro listed a w inv hl hI
    have e := done_of inv hn hl
    subst e
    have := wpAny_of_seq (md := md) (Q' := Q) (ops.toList.drop n) n (doneA n (ops.size - n)) a w (fun j => by rw [List.getElem?_drop, Array.getElem?_toList]) (by simpa using hseq) (hE a w hI)
    simpa using this
  | succ f ih =>
    intro listed a w inv hl hI
    have hex : ∃ i, i < n ∧ listed.getD i true = false := by
      cases hf : (List.range n).filter fun i => !listed.getD i true with
      | nil => rw [leftH, hf] at hl; cases hl
      | cons x r =>
        have : x ∈ (List.range n).filter fun i => !listed.getD i true := by rw [hf]; exact List.mem_cons_self ..
        obtain ⟨h1, h2⟩ := List.mem_filter.1 this
        exact ⟨x, List.mem_range.1 h1, by simpa using h2⟩
    obtain ⟨i, hi, hun, hlt⟩ := least_false hex
    have hio : i < ops.size := by omega
    have hrd : i ∈ Region.ready md ops listed := mem_ready.2 ⟨hun, ops[i], Array.getElem?_eq_getElem hio, fun e he hb => by
      have h1 := aheadB_spec hah (Array.getElem?_eq_getElem hio) e he hb
      have h2 := hlt e.on h1
      have hs' : e.on < listed.size := by rw [inv.size]; omega
      simp [hs'] at h2 ⊢
      exact h2⟩
    rw [show f + 1 + (ops.size - n) = (f + (ops.size - n)) + 1 by omega]
    refine ⟨fun h0 => (by rw [h0] at hrd; cases hrd), fun j hj => ?_⟩
    have hjn : j < n := by
      rcases Nat.lt_or_ge j n with h | h
      · exact h
      · obtain ⟨_, o, ho, _⟩ := mem_ready.1 hj
        have hjs := (Array.getElem?_eq_some_iff.1 ho).1
        rcases hsink with h' | ⟨⟨h1, h2⟩, h3⟩
        · omega
        · exact absurd hj (tail_waits h2 h3 h1 inv _ i rfl hi hun j h)
    obtain ⟨hjun, _⟩ := mem_ready.1 hj
    exact wpOp_mono (fun a' w' h' => ih _ a' w' (inv.set hj hjn) (by have := leftH_set hjn (by rw [inv.size]; omega) hjun; omega) h') (hs listed a w j inv hj hjn hI)

/-! ### Specifications that stay true as the world grows -/
def dstsB (ops : Array Oper) (n m : Nat) : Bool :=
  (List.range n).all fun i => match (ops[i]?).bind (·.dst) with
    | some t => decide (t < m) && (List.range n).all fun j => decide (i = j) || (ops[j]?).bind (·.dst) != some t
    | none => true
theorem dstsB_lt {n m i t : Nat} (h : dstsB ops n m = true) (hi : i < n) (ht : (ops[i]?).bind (·.dst) = some t) : t < m := by
  have h1 := List.all_eq_true.1 h i (List.mem_range.2 hi)
  rw [ht] at h1
  simp only [Bool.and_eq_true, decide_eq_true_eq] at h1
  exact h1.1
theorem dstsB_ne {n m i j t : Nat} (h : dstsB ops n m = true) (hi : i < n) (hj : j < n) (hij : i ≠ j) (ht : (ops[i]?).bind (·.dst) = some t) : (ops[j]?).bind (·.dst) ≠ some t := by
  have h1 := List.all_eq_true.1 h i (List.mem_range.2 hi)
  rw [ht] at h1
  simp only [Bool.and_eq_true, decide_eq_true_eq] at h1
  have h2 := List.all_eq_true.1 h1.2 j (List.mem_range.2 hj)
  simp only [Bool.or_eq_true, decide_eq_true_eq] at h2
  rcases h2 with h2 | h2
  · exact absurd h2 hij
  · simpa using h2
/-- The frame with the head's values put in, in the order of the text. -/
def putV (ops : Array Oper) (V : Nat → Value) (a0 : Act) : Nat → Act
  | 0 => a0
  | n + 1 => (putV ops V a0 n).put ((ops[n]?).bind (·.dst)) (V n)
theorem put_size (a : Act) (d : Option Tmp) (v : Value) : (a.put d v).tmps.size = a.tmps.size := by
  cases d <;> simp [Act.put]
theorem put_defers (a : Act) (d : Option Tmp) (v : Value) : (a.put d v).defers = a.defers := by
  cases d <;> rfl
theorem put_other (a : Act) {d : Option Tmp} (v : Value) {t : Nat} (h : d ≠ some t) : (a.put d v).tmps[t]? = a.tmps[t]? := by
  cases d with
  | none => rfl
  | some k =>
    have hne : k ≠ t := fun e => h (by rw [e])
    simp [Act.put, Array.getElem?_setIfInBounds_ne hne]
theorem put_same (a : Act) (v : Value) {t : Nat} (h : t < a.tmps.size) : (a.put (some t) v).tmps[t]? = some v := by
  simp [Act.put, h]
theorem putV_size (V : Nat → Value) (a0 : Act) : ∀ n, (putV ops V a0 n).tmps.size = a0.tmps.size ∧ (putV ops V a0 n).defers = a0.defers
  | 0 => ⟨rfl, rfl⟩
  | n + 1 => by
    obtain ⟨h1, h2⟩ := putV_size V a0 n
    exact ⟨(put_size _ _ _).trans h1, (put_defers _ _ _).trans h2⟩
theorem putV_other (V : Nat → Value) (a0 : Act) {t : Nat} : ∀ n, (∀ i, i < n → (ops[i]?).bind (·.dst) ≠ some t) → (putV ops V a0 n).tmps[t]? = a0.tmps[t]?
  | 0, _ => rfl
  | n + 1, h => (put_other _ _ (h n (Nat.lt_succ_self n))).trans (putV_other V a0 n fun i hi => h i (Nat.lt_succ_of_lt hi))
theorem putV_at {m : Nat} (V : Nat → Value) (a0 : Act) {N : Nat} (hd : dstsB ops N m = true) (hm : m ≤ a0.tmps.size) {i t : Nat} (ht : (ops[i]?).bind (·.dst) = some t) : ∀ n, n ≤ N → i < n → (putV ops V a0 n).tmps[t]? = some (V i)
  | 0, _, h => absurd h (Nat.not_lt_zero _)
  | n + 1, hn, h => by
    by_cases e : i = n
    · subst e
      show ((putV ops V a0 i).put ((ops[i]?).bind (·.dst)) (V i)).tmps[t]? = some (V i)
      rw [ht]
      exact put_same _ _ (by rw [(putV_size V a0 i).1]; exact Nat.lt_of_lt_of_le (dstsB_lt hd (by omega) ht) hm)
    · exact (put_other _ _ (dstsB_ne hd (by omega) (by omega) e ht)).trans (putV_at V a0 hd hm ht n (by omega) (by omega))
structure Fr (ops : Array Oper) (n : Nat) (a0 : Act) (V : Nat → Value) (listed : Array Bool) (a : Act) : Prop where
  size : a.tmps.size = a0.tmps.size
  defers : a.defers = a0.defers
  other : ∀ t, (∀ i, i < n → (ops[i]?).bind (·.dst) ≠ some t) → a.tmps[t]? = a0.tmps[t]?
  at_ : ∀ i t, i < n → listed.getD i false = true → (ops[i]?).bind (·.dst) = some t → a.tmps[t]? = some (V i)
theorem Fr.put {n m i : Nat} {a0 a : Act} {V : Nat → Value} {listed : Array Bool} (h : Fr ops n a0 V listed a) (hd : dstsB ops n m = true) (hm : m ≤ a0.tmps.size) (hi : i < n) (hun : listed.getD i true = false) (v : Value) :
    Fr ops n a0 (fun k => if k = i then v else V k) (listed.setIfInBounds i true) (a.put ((ops[i]?).bind (·.dst)) v) := by
  refine ⟨(put_size _ _ _).trans h.size, (put_defers _ _ _).trans h.defers, fun t ht => (put_other _ _ (ht i hi)).trans (h.other t ht), fun k t hk hl ht => ?_⟩
  by_cases e : k = i
  · subst e
    rw [if_pos rfl, ht]
    exact put_same _ _ (by rw [h.size]; exact Nat.lt_of_lt_of_le (dstsB_lt hd hi ht) hm)
  · rw [if_neg e]
    rw [getD_set_ne false (fun e' => e e'.symm)] at hl
    exact (put_other _ _ (dstsB_ne hd hk hi e ht)).trans (h.at_ k t hk hl ht)
theorem Fr.done {n m : Nat} {a0 a : Act} {V : Nat → Value} {listed : Array Bool} (h : Fr ops n a0 V listed a) (hd : dstsB ops n m = true) (hm : m ≤ a0.tmps.size) (hl : ∀ i, i < n → listed.getD i false = true) : a = putV ops V a0 n := by
  obtain ⟨s1, s2⟩ := putV_size (ops := ops) V a0 n
  have e : a.tmps = (putV ops V a0 n).tmps := by
    apply Array.ext_getElem?
    intro t
    by_cases ht : ∃ i, i < n ∧ (ops[i]?).bind (·.dst) = some t
    · obtain ⟨i, hi, ht⟩ := ht
      rw [h.at_ i t hi (hl i hi) ht, putV_at V a0 hd hm ht n (Nat.le_refl _) hi]
    · have ht' : ∀ i, i < n → (ops[i]?).bind (·.dst) ≠ some t := fun i hi e => ht ⟨i, hi, e⟩
      rw [h.other t ht', putV_other V a0 n ht']
  obtain ⟨t1, d1⟩ := a
  simp only at e
  have hd' := h.defers
  rw [← s2] at hd'
  generalize putV ops V a0 n = b at e hd'
  obtain ⟨t2, d2⟩ := b
  simp only at e hd'
  rw [e, hd']
def waits (ops : Array Oper) (j i : Nat) : Bool := Region.waitsFor .any ops j i
/-- One operation's duty: in a world that has grown, with the values of those that it waits for, it yields what it is to, in a world that has grown. -/
def Duty (P : Program) (ops : Array Oper) (n : Nat) (Sp : Nat → Value → World → Prop) (a0 : Act) (w1 : World) (i : Nat) (o : Oper) : Prop :=
  ∀ (a : Act) (w : World) (Q : Exit → Act → World → Prop) (K : Act → World → Prop), Below w1.heap.size w1 w →
    (∀ t, (∀ k, k < n → (ops[k]?).bind (·.dst) ≠ some t) → a.tmps[t]? = a0.tmps[t]?) →
    (∀ k t, k < n → waits ops i k = true → (ops[k]?).bind (·.dst) = some t → ∃ v, a.tmps[t]? = some v ∧ Sp k v w) →
    (∀ v w', Below w.heap.size w w' → Sp i v w' → K (a.put o.dst v) w') →
    if Region.wanted o (yielded ops a.tmps) = true then o.wp P a w K Q else K (a.put o.dst undef) w
theorem wp_region_grow {id n m : Nat} {Q : Exit → Act → World → Prop} {a0 : Act} {w0 : World} {l : List Oper} (Sp : Nat → Value → World → Prop) (hm : P.follows .mixedOrders = true) (hB : headB .any l.toArray n = true) (hd : dstsB l.toArray n m = true) (hsz : m ≤ a0.tmps.size)
    (hst : ∀ i v w w', i < n → Sp i v w → Below w.heap.size w w' → Sp i v w')
    (hduty : ∀ i o, i < n → l.toArray[i]? = some o → Duty P l.toArray n Sp a0 w0.drew i o)
    (hend : ∀ (V : Nat → Value) (w : World), Below w0.drew.heap.size w0.drew w → (∀ i, i < n → Sp i (V i) w) → wpList P l.toArray Q (l.drop n) (putV l.toArray V a0 n) w) :
    (Code.region id l.toArray true).wp P Q a0 w0 := by
  have hn : n ≤ l.toArray.size := by
    simp only [headB, Bool.and_eq_true, decide_eq_true_eq] at hB
    exact hB.1.1.2
  refine wp_region_any hm ?_
  have H := wpAny_inv (P := P) (md := .any) (ops := l.toArray) (n := n) (Q := Q) (Inv := fun listed a w => Below w0.drew.heap.size w0.drew w ∧ ∃ V, Fr l.toArray n a0 V listed a ∧ ∀ i, i < n → listed.getD i false = true → Sp i (V i) w) hB ?_ ?_ n (Array.replicate l.toArray.size false) a0 w0.drew
    ⟨by simp, fun j oj _ hl => (by rw [getD_replicate_false] at hl; cases hl), fun t _ ht => getD_in (by simpa using ht) (getD_replicate_false _ _)⟩ ?_
    ⟨Below.refl _ _, fun _ => undef, ⟨rfl, rfl, fun _ _ => rfl, fun i t _ hl => (by rw [getD_replicate_false] at hl; cases hl)⟩, fun i _ hl => (by rw [getD_replicate_false] at hl; cases hl)⟩
  · rw [show n + (l.toArray.size - n) = l.toArray.size by omega] at H
    exact H
  · rintro listed a w i inv hr hi ⟨hb, V, hF, hS⟩
    obtain ⟨hun, o, ho, hall⟩ := mem_ready.1 hr
    have hD := hduty i o hi ho a w Q (fun a' w' => Below w0.drew.heap.size w0.drew w' ∧ ∃ V, Fr l.toArray n a0 V (listed.setIfInBounds i true) a' ∧ ∀ k, k < n → (listed.setIfInBounds i true).getD k false = true → Sp k (V k) w') hb hF.other
      (fun k t hk hw ht => by
        obtain ⟨oj, hoj, e, he, hbd, hon⟩ := Region.waitsFor_spec hw
        have : oj = o := Option.some.inj (hoj.symm.trans ho)
        subst this
        have hl := hall e he hbd
        rw [hon] at hl
        exact ⟨V k, hF.at_ k t hk hl ht, hS k hk hl⟩)
      (fun v w' hbw hv => by
        refine ⟨hb.trans (hbw.mono hb.size), fun k => if k = i then v else V k, ?_, fun k hk hl => ?_⟩
        · have e : (l.toArray[i]?).bind (·.dst) = o.dst := by rw [ho]; rfl
          have := hF.put hd hsz hi hun v
          rwa [e] at this
        · by_cases e : k = i
          · subst e
            simpa using hv
          · simp only [if_neg e]
            rw [getD_set_ne false (fun e' => e e'.symm)] at hl
            exact hst k _ _ _ hk (hS k hk hl) hbw)
    unfold wpOp
    simp only [ho]
    split
    · rename_i hw
      rw [if_pos hw] at hD
      exact .inl hD
    · rename_i hw
      rw [if_neg hw] at hD
      exact hD
  · rintro a w ⟨hb, V, hF, hS⟩
    have hl : ∀ i, i < n → (doneA n (l.toArray.size - n)).getD i false = true := fun i hi => by
      unfold doneA
      simp [List.getElem?_append_left, hi]
    rw [hF.done hd hsz hl]
    have := hend V w hb fun i hi => hS i hi (hl i hi)
    simpa using this
  · unfold leftH
    have : ((List.range n).filter fun i => !(Array.replicate l.toArray.size false).getD i true) = List.range n := List.filter_eq_self.2 fun i hi => by
      have := List.mem_range.1 hi
      have : i < l.length := by simp at hn; omega
      simp [this]
    rw [this, List.length_range]
end


section
variable {P : Program} {ops : Array Oper}
def upd {α : Type} (V : Nat → α) (i : Nat) (v : α) : Nat → α := fun k => if k = i then v else V k
theorem upd_same {α : Type} (V : Nat → α) (i : Nat) (v : α) : upd V i v i = v := if_pos rfl
theorem upd_other {α : Type} (V : Nat → α) {i k : Nat} (v : α) (h : k ≠ i) : upd V i v k = V k := if_neg h
/-- The values that operation i may speak of: its own, and those that it waits for. -/
def mask (ops : Array Oper) (i : Nat) (V : Nat → Value) : Nat → Value := fun k => if k = i ∨ waits ops i k = true then V k else undef
theorem mask_self (ops : Array Oper) (i : Nat) (V : Nat → Value) : mask ops i V i = V i := if_pos (.inl rfl)
theorem mask_waits {i k : Nat} (V : Nat → Value) (h : waits ops i k = true) : mask ops i V k = V k := if_pos (.inr h)
theorem mask_upd {i j : Nat} (V : Nat → Value) (v : Value) (hij : i ≠ j) (h : waits ops i j = false) : mask ops i (upd V j v) = mask ops i V := by
  funext k
  unfold mask
  by_cases hk : k = i ∨ waits ops i k = true
  · rw [if_pos hk, if_pos hk]
    refine upd_other V v fun e => ?_
    subst e
    rcases hk with hk | hk
    · exact hij hk.symm
    · rw [h] at hk
      cases hk
  · rw [if_neg hk, if_neg hk]
structure GrowM (w w' : World) (M : Nat → Prop) : Prop where
  os : w'.os = w.os
  tape : w'.tape = w.tape
  output : w'.output = w.output
  size : w.heap.size ≤ w'.heap.size
  block : ∀ b, b < w.heap.size → ¬ M b → w'.heap[b]? = w.heap[b]?
theorem GrowM.of_below {w w' : World} {M : Nat → Prop} (h : Below w.heap.size w w') : GrowM w w' M := ⟨h.os, h.tape, h.output, h.size, fun b hb _ => h.block b hb⟩
theorem GrowM.below {w w' : World} {M : Nat → Prop} (h : GrowM w w' M) (hM : ∀ b, ¬ M b) : Below w.heap.size w w' := ⟨h.os, h.tape, h.output, h.size, fun b hb => h.block b hb (hM b)⟩
theorem GrowM.base {w1 w w' : World} {M : Nat → Prop} (hb : Below w1.heap.size w1 w) (h : GrowM w w' M) (hM : ∀ b, M b → w1.heap.size ≤ b) : Below w1.heap.size w1 w' :=
  ⟨h.os.trans hb.os, h.tape.trans hb.tape, h.output.trans hb.output, Nat.le_trans hb.size h.size, fun b hlt => (h.block b (Nat.lt_of_lt_of_le hlt hb.size) (fun hm => by have := hM b hm; omega)).trans (hb.block b hlt)⟩
def consB (ops : Array Oper) (n : Nat) (cons : Nat → List Nat) : Bool :=
  (List.range n).all fun i => (cons i).all fun k => decide (k < n) && waits ops i k && (List.range n).all fun j => decide (i = j) || !(cons j).contains k
theorem consB_spec {n : Nat} {cons : Nat → List Nat} (h : consB ops n cons = true) {i k : Nat} (hi : i < n) (hk : k ∈ cons i) : k < n ∧ waits ops i k = true ∧ ∀ j, j < n → i ≠ j → k ∉ cons j := by
  have h1 := List.all_eq_true.1 (List.all_eq_true.1 h i (List.mem_range.2 hi)) k hk
  simp only [Bool.and_eq_true, decide_eq_true_eq] at h1
  refine ⟨h1.1.1, h1.1.2, fun j hj hij hc => ?_⟩
  have h2 := List.all_eq_true.1 h1.2 j (List.mem_range.2 hj)
  simp only [Bool.or_eq_true, decide_eq_true_eq, Bool.not_eq_true', List.contains_eq_mem, decide_eq_false_iff_not] at h2
  rcases h2 with h2 | h2
  · exact hij h2
  · exact h2 hc
def mutB (ops : Array Oper) (n : Nat) (cons : Nat → List Nat) (mu loc : Nat → Bool) : Bool :=
  (List.range n).all fun j => !mu j || (List.range n).all fun k => decide (k = j) || (cons j).contains k || loc k || waits ops k j || (List.range n).any fun c => (cons c).contains k && waits ops j c
theorem mutB_spec {n : Nat} {cons : Nat → List Nat} {mu loc : Nat → Bool} (h : mutB ops n cons mu loc = true) {j k : Nat} (hj : j < n) (hk : k < n) (hm : mu j = true) (hkj : k ≠ j) (hc : k ∉ cons j) (hl : loc k = false) :
    waits ops k j = true ∨ ∃ c, c < n ∧ k ∈ cons c ∧ waits ops j c = true := by
  have h1 := List.all_eq_true.1 h j (List.mem_range.2 hj)
  simp only [hm, Bool.not_true, Bool.false_or] at h1
  have h2 := List.all_eq_true.1 h1 k (List.mem_range.2 hk)
  simp only [Bool.or_eq_true, decide_eq_true_eq, List.contains_eq_mem, hl, List.any_eq_true, Bool.and_eq_true, List.mem_range] at h2
  rcases h2 with (((h2 | h2) | h2) | h2) | ⟨c, h2, h3, h4⟩
  · exact absurd h2 hkj
  · exact absurd h2 hc
  · cases h2
  · exact .inl h2
  · exact .inr ⟨c, h2, h3, h4⟩
/-- The same below W, in the frozen blocks, and in F. -/
structure Keeps (B : Nat) (Z : Nat → Prop) (w w' : World) : Prop where
  os : w'.os = w.os
  tape : w'.tape = w.tape
  output : w'.output = w.output
  size : w.heap.size ≤ w'.heap.size
  block : ∀ b, b < w.heap.size → (b < B ∨ Z b) → w'.heap[b]? = w.heap[b]?
/-- One operation's duty: what it yields for good (Pz, over frozen blocks), and what it holds (Re, over its own blocks). -/
def Duty3 (P : Program) (ops : Array Oper) (n : Nat) (cons : Nat → List Nat) (mu : Nat → Bool) (Pz : Nat → (Nat → Value) → World → (Nat → Prop) → Prop) (Re : Nat → (Nat → Value) → World → (Nat → Prop) → (Nat → Prop) → Prop) (a0 : Act) (w1 : World) (i : Nat) (o : Oper) : Prop :=
  ∀ (a : Act) (w : World) (Q : Exit → Act → World → Prop) (K : Act → World → Prop) (V : Nat → Value) (Z : Nat → Prop) (F : Nat → Nat → Prop), Below w1.heap.size w1 w →
    (∀ t, (∀ k, k < n → (ops[k]?).bind (·.dst) ≠ some t) → a.tmps[t]? = a0.tmps[t]?) →
    (∀ k t, k < n → waits ops i k = true → (ops[k]?).bind (·.dst) = some t → a.tmps[t]? = some (V k)) →
    (∀ b, Z b → w1.heap.size ≤ b ∧ b < w.heap.size) →
    (∀ k, k < n → waits ops i k = true → Pz k (mask ops k V) w Z) →
    (∀ k, k ∈ cons i → Re k (mask ops k V) w Z (F k) ∧ ∀ b, F k b → w1.heap.size ≤ b ∧ b < w.heap.size ∧ ¬ Z b) →
    (∀ k k' b, k ∈ cons i → k' ∈ cons i → k ≠ k' → F k b → F k' b → False) →
    (∀ v w' (Z' F' : Nat → Prop), GrowM w w' (fun b => mu i = true ∧ ∃ k, k ∈ cons i ∧ F k b) → (∀ b, Z b → Z' b) →
      (∀ b, Z' b → Z b ∨ (∃ k, k ∈ cons i ∧ F k b) ∨ (w.heap.size ≤ b ∧ b < w'.heap.size)) →
      (∀ b, F' b → ((∃ k, k ∈ cons i ∧ F k b) ∨ (w.heap.size ≤ b ∧ b < w'.heap.size)) ∧ ¬ Z' b) →
      Pz i (mask ops i (upd V i v)) w' Z' → Re i (mask ops i (upd V i v)) w' Z' F' → K (a.put o.dst v) w') →
    if Region.wanted o (yielded ops a.tmps) = true then o.wp P a w K Q else K (a.put o.dst undef) w
structure Inv3 (ops : Array Oper) (n : Nat) (cons : Nat → List Nat) (Pz : Nat → (Nat → Value) → World → (Nat → Prop) → Prop) (Re : Nat → (Nat → Value) → World → (Nat → Prop) → (Nat → Prop) → Prop) (a0 : Act) (w1 : World) (V : Nat → Value) (Z : Nat → Prop) (F : Nat → Nat → Prop) (listed : Array Bool) (a : Act) (w : World) : Prop where
  below : Below w1.heap.size w1 w
  fr : Fr ops n a0 V listed a
  zb : ∀ b, Z b → w1.heap.size ≤ b ∧ b < w.heap.size
  pz : ∀ i, i < n → listed.getD i false = true → Pz i (mask ops i V) w Z
  re : ∀ i, i < n → listed.getD i false = true → (∀ c, c < n → listed.getD c false = true → i ∉ cons c) → Re i (mask ops i V) w Z (F i) ∧ ∀ b, F i b → w1.heap.size ≤ b ∧ b < w.heap.size ∧ ¬ Z b
  apart : ∀ i j b, i < n → j < n → i ≠ j → listed.getD i false = true → listed.getD j false = true → (∀ c, c < n → listed.getD c false = true → i ∉ cons c) → (∀ c, c < n → listed.getD c false = true → j ∉ cons c) → F i b → F j b → False
theorem wp_region_sep {id n m : Nat} {Q : Exit → Act → World → Prop} {a0 : Act} {w0 : World} {l : List Oper} (cons : Nat → List Nat) (mu : Nat → Bool) (Pz : Nat → (Nat → Value) → World → (Nat → Prop) → Prop) (Re : Nat → (Nat → Value) → World → (Nat → Prop) → (Nat → Prop) → Prop)
    (hm : P.follows .mixedOrders = true) (hB : headB .any l.toArray n = true) (hd : dstsB l.toArray n m = true) (hsz : m ≤ a0.tmps.size) (hc : consB l.toArray n cons = true)
    (hstP : ∀ i U w w' Z Z', i < n → Pz i U w Z → (∀ b, Z b → Z' b) → (∀ b, Z b → b < w.heap.size) → w0.drew.heap.size ≤ w.heap.size → Keeps w0.drew.heap.size Z w w' → Pz i U w' Z')
    (hstR : ∀ i U w w' Z Z' F, i < n → Re i U w Z F → (∀ b, Z b → Z' b) → (∀ b, Z b → b < w.heap.size) → (∀ b, F b → b < w.heap.size) → w0.drew.heap.size ≤ w.heap.size → Keeps w0.drew.heap.size (fun b => Z b ∨ F b) w w' → Re i U w' Z' F)
    (hduty : ∀ i o, i < n → l.toArray[i]? = some o → Duty3 P l.toArray n cons mu Pz Re a0 w0.drew i o)
    (hend : ∀ (V : Nat → Value) (Z : Nat → Prop) (F : Nat → Nat → Prop) (w : World), Below w0.drew.heap.size w0.drew w → (∀ b, Z b → w0.drew.heap.size ≤ b ∧ b < w.heap.size) → (∀ i, i < n → Pz i (mask l.toArray i V) w Z) →
      (∀ i, i < n → (∀ c, c < n → i ∉ cons c) → Re i (mask l.toArray i V) w Z (F i) ∧ ∀ b, F i b → w0.drew.heap.size ≤ b ∧ b < w.heap.size ∧ ¬ Z b) →
      (∀ i j b, i < n → j < n → i ≠ j → (∀ c, c < n → i ∉ cons c) → (∀ c, c < n → j ∉ cons c) → F i b → F j b → False) → wpList P l.toArray Q (l.drop n) (putV l.toArray V a0 n) w) :
    (Code.region id l.toArray true).wp P Q a0 w0 := by
  have hn : n ≤ l.toArray.size := by
    simp only [headB, Bool.and_eq_true, decide_eq_true_eq] at hB
    exact hB.1.1.2
  refine wp_region_any hm ?_
  have H := wpAny_inv (P := P) (md := .any) (ops := l.toArray) (n := n) (Q := Q) (Inv := fun listed a w => ∃ V Z F, Inv3 l.toArray n cons Pz Re a0 w0.drew V Z F listed a w) hB ?_ ?_ n (Array.replicate l.toArray.size false) a0 w0.drew
    ⟨by simp, fun j oj _ hl => (by rw [getD_replicate_false] at hl; cases hl), fun t _ ht => getD_in (by simpa using ht) (getD_replicate_false _ _)⟩ ?_
    ⟨fun _ => undef, fun _ => False, fun _ _ => False, Below.refl _ _, ⟨rfl, rfl, fun _ _ => rfl, fun i t _ hl => (by rw [getD_replicate_false] at hl; cases hl)⟩, fun b hb => hb.elim, fun i _ hl => (by rw [getD_replicate_false] at hl; cases hl), fun i _ hl => (by rw [getD_replicate_false] at hl; cases hl), fun i j b _ _ _ hl => (by rw [getD_replicate_false] at hl; cases hl)⟩
  · rw [show n + (l.toArray.size - n) = l.toArray.size by omega] at H
    exact H
  · rintro listed a w j inv hr hj ⟨V, Z, F, I⟩
    obtain ⟨hun, o, ho, hall⟩ := mem_ready.1 hr
    have hunf : listed.getD j false = false := getD_both hun
    have hlw : ∀ k, waits l.toArray j k = true → listed.getD k false = true := fun k hw => by
      obtain ⟨oj, hoj, e, he, hbd, hon⟩ := Region.waitsFor_spec hw
      have : oj = o := Option.some.inj (hoj.symm.trans ho)
      subst this
      have hl := hall e he hbd
      rwa [hon] at hl
    have hnw : ∀ i, listed.getD i false = true → waits l.toArray i j = false := fun i hl => by
      cases hw : waits l.toArray i j with
      | false => rfl
      | true =>
        obtain ⟨oi, hoi, e, he, hbd, hon⟩ := Region.waitsFor_spec hw
        have h1 := inv.closed i oi hoi hl e he hbd
        rw [hon, hunf] at h1
        cases h1
    have hlive : ∀ k, k ∈ cons j → ∀ c, c < n → listed.getD c false = true → k ∉ cons c := fun k hk c hcn hcl => by
      refine (consB_spec hc hj hk).2.2 c hcn fun e => ?_
      subst e
      rw [hunf] at hcl
      cases hcl
    have hcl : ∀ k, k ∈ cons j → k < n ∧ listed.getD k false = true := fun k hk => ⟨(consB_spec hc hj hk).1, hlw k (consB_spec hc hj hk).2.1⟩
    have hB1 : w0.drew.heap.size ≤ w.heap.size := I.below.size
    have hD := hduty j o hj ho a w Q (fun a' w' => ∃ V Z F, Inv3 l.toArray n cons Pz Re a0 w0.drew V Z F (listed.setIfInBounds j true) a' w') V Z F I.below I.fr.other
      (fun k t hk hw ht => I.fr.at_ k t hk (hlw k hw) ht) I.zb (fun k hk hw => I.pz k hk (hlw k hw))
      (fun k hk => I.re k (hcl k hk).1 (hcl k hk).2 (hlive k hk))
      (fun k k' b hk hk' hne h1 h2 => I.apart k k' b (hcl k hk).1 (hcl k' hk').1 hne (hcl k hk).2 (hcl k' hk').2 (hlive k hk) (hlive k' hk') h1 h2)
      (fun v w' Z' F' hg hZ hZ' hF' hP hR => by
        have hFk : ∀ k b, k ∈ cons j → F k b → w0.drew.heap.size ≤ b ∧ b < w.heap.size ∧ ¬ Z b := fun k b hk hf => (I.re k (hcl k hk).1 (hcl k hk).2 (hlive k hk)).2 b hf
        have hMb : ∀ b, (mu j = true ∧ ∃ k, k ∈ cons j ∧ F k b) → w0.drew.heap.size ≤ b ∧ ¬ Z b := fun b ⟨_, k, hk, hf⟩ => ⟨(hFk k b hk hf).1, (hFk k b hk hf).2.2⟩
        have hset : ∀ i, i ≠ j → (listed.setIfInBounds j true).getD i false = true → listed.getD i false = true := fun i hij hl => by
          rwa [getD_set_ne false (fun e => hij e.symm)] at hl
        have hjset : (listed.setIfInBounds j true).getD j false = true := by
          have : j < listed.size := by rw [inv.size]; omega
          simp [this]
        have hold : ∀ i, (∀ c, c < n → (listed.setIfInBounds j true).getD c false = true → i ∉ cons c) → (∀ c, c < n → listed.getD c false = true → i ∉ cons c) ∧ i ∉ cons j := fun i h =>
          ⟨fun c hcn hl => h c hcn (getD_set_true hl), h j hj hjset⟩
        refine ⟨upd V j v, Z', upd F j F', hg.base I.below fun b hb => (hMb b hb).1, ?_, fun b hb => ?_, fun i hi hl => ?_, fun i hi hl hlv => ?_, fun i i' b hi hi' hne hl hl' hv hv' h1 h2 => ?_⟩
        · have e : (l.toArray[j]?).bind (·.dst) = o.dst := by rw [ho]; rfl
          have := I.fr.put hd hsz hj hun v
          rwa [e] at this
        · rcases hZ' b hb with h1 | ⟨k, hk, hf⟩ | h1
          · exact ⟨(I.zb b h1).1, Nat.lt_of_lt_of_le (I.zb b h1).2 hg.size⟩
          · exact ⟨(hFk k b hk hf).1, Nat.lt_of_lt_of_le (hFk k b hk hf).2.1 hg.size⟩
          · exact ⟨Nat.le_trans hB1 h1.1, h1.2⟩
        · by_cases e : i = j
          · subst e; exact hP
          · rw [mask_upd V v e (hnw i (hset i e hl))]
            refine hstP i _ w w' Z Z' hi (I.pz i hi (hset i e hl)) hZ (fun b hb => (I.zb b hb).2) hB1 ⟨hg.os, hg.tape, hg.output, hg.size, fun b hb hbz => hg.block b hb fun hM => ?_⟩
            have := hMb b hM
            rcases hbz with hbz | hbz
            · omega
            · exact this.2 hbz
        · by_cases e : i = j
          · subst e
            rw [upd_same]
            refine ⟨hR, fun b hb => ?_⟩
            obtain ⟨h1, h2⟩ := hF' b hb
            rcases h1 with ⟨k, hk, hf⟩ | h1
            · exact ⟨(hFk k b hk hf).1, Nat.lt_of_lt_of_le (hFk k b hk hf).2.1 hg.size, h2⟩
            · exact ⟨Nat.le_trans hB1 h1.1, h1.2, h2⟩
          · have hli := hset i e hl
            obtain ⟨hlv1, hlv2⟩ := hold i hlv
            rw [mask_upd V v e (hnw i hli), upd_other F F' e]
            obtain ⟨r1, r2⟩ := I.re i hi hli hlv1
            have hnk : ∀ k b, k ∈ cons j → F i b → F k b → False := fun k b hk h1 h2 => I.apart i k b hi (hcl k hk).1 (fun e' => hlv2 (e' ▸ hk)) hli (hcl k hk).2 hlv1 (hlive k hk) h1 h2
            refine ⟨hstR i _ w w' Z Z' (F i) hi r1 hZ (fun b hb => (I.zb b hb).2) (fun b hb => (r2 b hb).2.1) hB1 ⟨hg.os, hg.tape, hg.output, hg.size, fun b hb hbz => hg.block b hb fun hM => ?_⟩, fun b hb => ⟨(r2 b hb).1, Nat.lt_of_lt_of_le (r2 b hb).2.1 hg.size, fun hz => ?_⟩⟩
            · have := hMb b hM
              obtain ⟨_, k, hk, hf⟩ := hM
              rcases hbz with hbz | hbz | hbz
              · omega
              · exact this.2 hbz
              · exact hnk k b hk hbz hf
            · rcases hZ' b hz with h1 | ⟨k, hk, hf⟩ | h1
              · exact (r2 b hb).2.2 h1
              · exact hnk k b hk hb hf
              · have := (r2 b hb).2.1
                omega
        · have key : ∀ i, i < n → i ≠ j → (listed.setIfInBounds j true).getD i false = true → (∀ c, c < n → (listed.setIfInBounds j true).getD c false = true → i ∉ cons c) → ∀ b, F i b → F' b → False := fun i hi e hl hlv b hb hb' => by
            have hli := hset i e hl
            obtain ⟨hlv1, hlv2⟩ := hold i hlv
            rcases (hF' b hb').1 with ⟨k, hk, hf⟩ | h
            · exact I.apart i k b hi (hcl k hk).1 (fun e' => hlv2 (e' ▸ hk)) hli (hcl k hk).2 hlv1 (hlive k hk) hb hf
            · have := ((I.re i hi hli hlv1).2 b hb).2.1
              omega
          by_cases e : i = j
          · subst e
            have e' : i' ≠ i := fun e' => hne e'.symm
            rw [upd_same] at h1
            rw [upd_other F F' e'] at h2
            exact key i' hi' e' hl' hv' b h2 h1
          · rw [upd_other F F' e] at h1
            by_cases e' : i' = j
            · subst e'
              rw [upd_same] at h2
              exact key i hi e hl hv b h1 h2
            · rw [upd_other F F' e'] at h2
              exact I.apart i i' b hi hi' hne (hset i e hl) (hset i' e' hl') (hold i hv).1 (hold i' hv').1 h1 h2)
    unfold wpOp
    simp only [ho]
    split
    · rename_i hw
      rw [if_pos hw] at hD
      exact .inl hD
    · rename_i hw
      rw [if_neg hw] at hD
      exact hD
  · rintro a w ⟨V, Z, F, I⟩
    have hl : ∀ i, i < n → (doneA n (l.toArray.size - n)).getD i false = true := fun i hi => by
      unfold doneA
      simp [List.getElem?_append_left, hi]
    rw [I.fr.done hd hsz hl]
    have := hend V Z F w I.below I.zb (fun i hi => I.pz i hi (hl i hi)) (fun i hi hlv => I.re i hi (hl i hi) fun c hcn _ => hlv c hcn) fun i j b hi hj hne h1 h2 => I.apart i j b hi hj hne (hl i hi) (hl j hj) (fun c hcn _ => h1 c hcn) fun c hcn _ => h2 c hcn
    simpa using this
  · unfold leftH
    have : ((List.range n).filter fun i => !(Array.replicate l.toArray.size false).getD i true) = List.range n := List.filter_eq_self.2 fun i hi => by
      have := List.mem_range.1 hi
      have : i < l.length := by simp at hn; omega
      simp [this]
    rw [this, List.length_range]
end
end Go.Proofs.Ytclhomkgphdagaa.Pv
