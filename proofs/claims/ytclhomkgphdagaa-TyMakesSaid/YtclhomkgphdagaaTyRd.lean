/- limbeckref04.Rec, ahead of its walk: a field put in its place; appends to rows of the call's own. -/
import Derived.Test.YtclhomkgphdagaaTyTu
namespace Go.Proofs.Ytclhomkgphdagaa
open Go.RowKit Go.Deep Go.Sort
def ins {α : Type} (a : Nat) (x : α) (l : List α) : List α := l.take a ++ [x] ++ l.drop a
theorem ins_len {α : Type} {a : Nat} {x : α} {l : List α} (h : a ≤ l.length) : (ins a x l).length = l.length + 1 := by
  simp [ins]
  omega
theorem ins_map {α β : Type} (f : α → β) (a : Nat) (x : α) (l : List α) : (ins a x l).map f = ins a (f x) (l.map f) := by simp [ins]
theorem ins_perm {α : Type} (a : Nat) (x : α) (l : List α) : (ins a x l).Perm (x :: l) := by
  unfold ins
  rw [List.append_assoc, List.singleton_append]
  refine List.perm_middle.trans ?_
  rw [List.take_append_drop]
theorem place_not {L : List ByteArray} {s : ByteArray} (h : placeI L s < 0) : ∀ q, q < L.length → stAt L q ≠ s := by
  intro q hq e
  unfold placeI at h
  cases hf : L.findIdx? (fun x => x.toList == s.toList) with
  | none =>
    rw [List.findIdx?_eq_none_iff] at hf
    have := hf _ (List.getElem_mem hq)
    rw [stAt_get hq] at e
    rw [e] at this
    simp at this
  | some k =>
    rw [hf] at h
    simp only at h
    omega
theorem place_is {L : List ByteArray} {s : ByteArray} (h : 0 ≤ placeI L s) : s ∈ L := by
  unfold placeI at h
  cases hf : L.findIdx? (fun x => x.toList == s.toList) with
  | none =>
    rw [hf] at h
    simp only at h
    omega
  | some k =>
    rw [List.findIdx?_eq_some_iff_getElem] at hf
    obtain ⟨hk, he, _⟩ := hf
    have : L[k] = s := eqS_iff.1 he
    rw [← this]
    exact List.getElem_mem hk
structure RD (w : World) (ss : List ByteArray) (ks : List Ty5) (i : Nat) (d : List FV) (P : List (ByteArray × Ty5)) : Prop where
  len : d.length = i
  all : All2 (FVIs w) d P
  perm : P.Perm ((ss.zip ks).take i)
  up : (P.map Prod.fst).Pairwise (fun a b => ltS a b = true)
  fine : ∀ s ∈ P.map Prod.fst, fineB s = true
theorem RD.start (w : World) (ss : List ByteArray) (ks : List Ty5) : RD w ss ks 0 [] [] := ⟨rfl, .nil, by simp, by simp, fun s h => (by simp at h)⟩
theorem ins_up {L : List ByteArray} {s : ByteArray} {a : Nat} (up : L.Pairwise (fun a b => ltS a b = true)) (hlo : ∀ q, q < a → q < L.length → ltS (stAt L q) s = true) (hne : ∀ q, q < L.length → stAt L q ≠ s)
    (hhi : a = L.length ∨ (a < L.length ∧ ltS (stAt L a) s = false)) : (ins a s L).Pairwise (fun a b => ltS a b = true) := by
  have hal : a ≤ L.length := by rcases hhi with h | h <;> omega
  have hgt : ∀ q, a ≤ q → q < L.length → ltS s (stAt L q) = true := fun q hq hl => by
    rcases hhi with h | ⟨h, hf⟩
    · omega
    have h1 : ltS s (stAt L a) = true := by
      rcases less_total (stAt L a).toList s.toList with k | k | k
      · unfold ltS at hf
        rw [k] at hf
        cases hf
      · exact absurd (eqS_iff.1 (by unfold eqS; rw [k]; simp)) (hne a h)
      · exact k
    rcases Nat.lt_or_ge a q with hlt | hge
    · have h2 : ltS (stAt L a) (stAt L q) = true := by
        rw [stAt_get h, stAt_get hl]
        exact List.pairwise_iff_getElem.1 up a q h hl hlt
      exact less_trans _ _ _ h1 h2
    · have : q = a := by omega
      rw [this]
      exact h1
  unfold ins
  rw [List.append_assoc, List.pairwise_append]
  refine ⟨up.sublist (List.take_sublist _ _), ?_, ?_⟩
  · rw [List.singleton_append, List.pairwise_cons]
    refine ⟨fun y hy => ?_, up.sublist (List.drop_sublist _ _)⟩
    obtain ⟨q, hq, rfl⟩ := List.getElem_of_mem hy
    rw [List.getElem_drop]
    have hq' : a + q < L.length := by rw [List.length_drop] at hq; omega
    have := hgt (a + q) (by omega) hq'
    rwa [stAt_get hq'] at this
  · intro x hx y hy
    obtain ⟨q, hq, rfl⟩ := List.getElem_of_mem hx
    rw [List.length_take] at hq
    rw [List.getElem_take]
    have hq' : q < L.length := by omega
    have h1 := hlo q (by omega) hq'
    rw [stAt_get hq'] at h1
    rw [List.singleton_append] at hy
    rcases List.mem_cons.1 hy with rfl | hy
    · exact h1
    · obtain ⟨p, hp, rfl⟩ := List.getElem_of_mem hy
      rw [List.getElem_drop]
      have hp' : a + p < L.length := by rw [List.length_drop] at hp; omega
      exact List.pairwise_iff_getElem.1 up q (a + p) hq' hp' (by omega)
theorem RD.step {w : World} {ss : List ByteArray} {ks : List Ty5} {i : Nat} {d : List FV} {P : List (ByteArray × Ty5)} (h : RD w ss ks i d P) (hl : ss.length = ks.length) (hi : i < ss.length) (x : FV) (hx : FVIs w x (stAt ss i, kAt ks i)) (hf : fineB (stAt ss i) = true)
    (hp : placeI (P.map Prod.fst) (stAt ss i) < 0) {a : Nat} (hlo : ∀ q, q < a → q < i → ltS (stAt (P.map Prod.fst) q) (stAt ss i) = true) (hhi : a = i ∨ (a < i ∧ ltS (stAt (P.map Prod.fst) a) (stAt ss i) = false)) :
    RD w ss ks (i + 1) (ins a x d) (ins a (stAt ss i, kAt ks i) P) := by
  have hal : a ≤ i := by rcases hhi with h | h <;> omega
  have hPl : P.length = i := by rw [← h.all.len, h.len]
  refine ⟨by rw [ins_len (by rw [h.len]; exact hal), h.len], ((h.all.take a).app (.cons hx .nil)).app (h.all.drop a), ?_, ?_, ?_⟩
  · have hz : i < (ss.zip ks).length := by rw [List.length_zip]; omega
    rw [List.take_succ_eq_append_getElem hz]
    have e : (ss.zip ks)[i] = (stAt ss i, kAt ks i) := by rw [List.getElem_zip, stAt_get hi, kAt_get (by omega)]
    rw [e]
    exact (ins_perm _ _ _).trans ((h.perm.cons _).trans (List.perm_append_comm (l₁ := [_])))
  · rw [ins_map]
    exact ins_up h.up (fun q hq hql => hlo q hq (by simpa [hPl] using hql)) (place_not hp) (by simpa [hPl] using hhi)
  · intro s hs
    rw [ins_map] at hs
    rcases List.mem_cons.1 ((ins_perm _ _ _).subset hs) with rfl | hs
    · exact hf
    · exact h.fine s hs
theorem RD.dup {w : World} {ss : List ByteArray} {ks : List Ty5} {i : Nat} {d : List FV} {P : List (ByteArray × Ty5)} (h : RD w ss ks i d P) (hl : ss.length = ks.length) (hi : i < ss.length) (hp : 0 ≤ placeI (P.map Prod.fst) (stAt ss i)) : ¬ ss.Nodup := by
  intro hn
  have hm := place_is hp
  have h1 := (h.perm.map Prod.fst).subset hm
  rw [List.map_take, List.map_fst_zip (by omega)] at h1
  obtain ⟨q, hq, he⟩ := List.getElem_of_mem h1
  rw [List.length_take] at hq
  rw [List.getElem_take, stAt_get hi] at he
  have := (List.getElem_inj hn).1 he
  omega
theorem RD.done {w : World} {ss : List ByteArray} {ks : List Ty5} {d : List FV} {P : List (ByteArray × Ty5)} (h : RD w ss ks ss.length d P) (hl : ss.length = ks.length) : RecIs ss ks true (.mk 8 0 ⟨#[]⟩ (P.map Prod.fst) (P.map Prod.snd)) := by
  refine .inl ⟨rfl, hl, P, ?_, rising_true fun j hj => ?_, rfl⟩
  · have := h.perm
    rwa [List.take_of_length_le (by rw [List.length_zip]; omega)] at this
  · have hf := h.fine _ (getD_mem hj)
    match j, hj, hf with
    | 0, hj, hf => rw [up_zero]; exact hf
    | q + 1, hj, hf =>
      rw [up_succ, hf, Bool.true_and, stAt_get hj, stAt_get (by omega : q < (P.map Prod.fst).length)]
      exact List.pairwise_iff_getElem.1 h.up q (q + 1) (by omega) hj (by omega)
theorem own_weaken {w : World} {b b' e s n : Nat} {v : Value} {xs : List Value} (h : w.ownsRow b e s v n xs) (hb : b' ≤ b) : w.ownsRow b' e s v n xs :=
  ⟨h.1, h.2.imp id fun ⟨g, cap, cur, h1, h2, h3⟩ => ⟨g, cap, cur, h1, Nat.le_trans hb h2, h3⟩⟩
/-- append of a part that may be nil, or none of its places. -/
theorem step_append_part {P : Program} {ops : Array Oper} {o : Oper} {a : Act} {w : World} {K : Act → World → Prop} {Q : Exit → Act → World → Prop} {E : Prop}
    (hgd : o.guard = none) (s x : Operand) (t : TypeId)
    (ho : o.op = .call { callee := .builtin .append, args := #[s, x], argTypes := #[t, t] })
    (base : Nat) (e : TypeId) (i : TypeInfo) (z : Value) (size bytes : Nat) (ht : P.underlying t = some (.slice e)) (hi : P.info? e = some i) (hz : i.zero = some z)
    (hsize : i.size = size) (hby : i.bytes = bytes) (hzs : z.cells.size = size) (hsz : 0 < size)
    (v : Value) (n : Nat) (xs : List Value) (hs : a.eval s = v) (hown : w.ownsRow base e size v n xs)
    (oa : Option Addr) (m c : Nat) (news : List Value) (hx : a.eval x = .slice oa m c)
    (hn : (oa = none ∧ m = 0 ∧ c = 0 ∧ news = []) ∨ (∃ ad, oa = some ad ∧ news.length = m * size ∧ (∀ j u, news[j]? = some u → w.cell? (ad.add j) = some u) ∧ ∀ u ∈ news, u.oneCell' = true))
    (h63 : n + m ≤ maxLen) (hbytes : (n + m) * bytes ≤ 140737488355328) (hbase : base ≤ w.heap.size)
    (h : ∀ v' w', w'.ownsRow base e size v' (n + m) (xs ++ news) → w.grownBy w' v.ownBlock → K (a.put o.dst v') w') : if Region.wanted o (yielded ops a.tmps) = true then Oper.wp P o a w K Q else E := by
  rcases hn with ⟨rfl, rfl, rfl, rfl⟩ | ⟨ad, rfl, hl, hnews, h1⟩
  · have hw : Region.wanted o (yielded ops a.tmps) = true := by simp [Region.wanted, hgd]
    rw [if_pos hw]
    have hrun := run_append_owned_none (P := P) (w := w) base t o.type e i size ht hi v n xs hown
    unfold Oper.wp
    simp [execOp, ho, resolve, invoke, builtin, hs, hx, hrun, Result.andThen]
    exact h v w (by simpa using hown) ⟨rfl, rfl, rfl, Nat.le_refl _, fun _ _ _ => rfl⟩
  · exact step_append_own hgd s x t ho base e i z size bytes ht hi hz hsize hby hzs hsz v n xs hs hown ad m c news hx hl hnews h1 h63 hbytes hbase h
end Go.Proofs.Ytclhomkgphdagaa
