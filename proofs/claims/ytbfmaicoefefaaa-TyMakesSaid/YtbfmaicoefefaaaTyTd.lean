/- TyTurned, ahead of its walk: rotations of a record's fields; a row of types as data; few. -/
import Derived.Test.YtbfmaicoefefaaaTyRu
import Derived.Test.YtbfmaicoefefaaaTyFd
import Derived.Test.YtbfmaicoefefaaaTyMs
import Derived.Deep.RegionLaw
set_option linter.unusedSimpArgs false
set_option linter.unusedVariables false
namespace Go.Proofs.Ytbfmaicoefefaaa
open Go.RowKit Go.Deep Go.Sort
def rot {α : Type} (n : Nat) (l : List α) : List α := l.drop n ++ l.take n
theorem rot_len {α : Type} (n : Nat) (l : List α) : (rot n l).length = l.length := by
  simp [rot]
  omega
theorem rot_map {α β : Type} (f : α → β) (n : Nat) (l : List α) : rot n (l.map f) = (rot n l).map f := by simp [rot]
theorem rot_mem {α : Type} {n : Nat} {l : List α} {x : α} (h : x ∈ rot n l) : x ∈ l := by
  rcases List.mem_append.1 h with h | h
  · exact List.mem_of_mem_drop h
  · exact List.mem_of_mem_take h
theorem rot_zip {α β : Type} (n : Nat) {ss : List α} {ks : List β} (h : ss.length = ks.length) : ((rot n ss).zip (rot n ks)).Perm (ss.zip ks) := by
  unfold rot
  rw [List.zip_append (by simp [h])]
  have e1 : (ss.drop n).zip (ks.drop n) = (ss.zip ks).drop n := by simp [List.zip, List.drop_zipWith]
  have e2 : (ss.take n).zip (ks.take n) = (ss.zip ks).take n := by simp [List.zip, List.take_zipWith]
  rw [e1, e2]
  exact List.perm_append_comm.trans (by rw [List.take_append_drop])
theorem rec_rot {ss : List ByteArray} {ks : List Ty5} {n : Nat} {b' : Bool} {t t' : Ty5} (h : RecIs ss ks true t) (h' : RecIs (rot n ss) (rot n ks) b' t') : b' = true ∧ t' = t := by
  rcases h with ⟨_, hl, P, hp, hr, rfl⟩ | ⟨h, _⟩
  · have g : RecIs (rot n ss) (rot n ks) true (.mk 8 0 ⟨#[]⟩ (P.map Prod.fst) (P.map Prod.snd)) :=
      .inl ⟨rfl, by rw [rot_len, rot_len, hl], P, hp.trans (rot_zip n hl).symm, hr, rfl⟩
    obtain ⟨e1, e2⟩ := rec_true g h'
    exact ⟨e1.symm, e2.symm⟩
  · cases h
theorem rec_len {ss : List ByteArray} {ks : List Ty5} {t : Ty5} (h : RecIs ss ks true t) : ss.length = ks.length := by
  rcases h with ⟨_, hl, _⟩ | ⟨h, _⟩
  · exact hl
  · cases h
/-- Each field of a record is found by its label. -/
theorem rec_field {ss : List ByteArray} {ks : List Ty5} {t : Ty5} (h : RecIs ss ks true t) {j : Nat} (hj : j < ss.length) : fieldT (stAt ss j) t = (kAt ks j, true) := by
  rcases h with ⟨_, hl, P, hp, hr, rfl⟩ | ⟨h, _⟩
  case inr => cases h
  have hk : j < ks.length := by omega
  have hmem : (ss[j], ks[j]) ∈ ss.zip ks := by
    have : (ss.zip ks)[j]'(by rw [List.length_zip]; omega) = (ss[j], ks[j]) := List.getElem_zip ..
    rw [← this]
    exact List.getElem_mem _
  obtain ⟨i, hi, he⟩ := List.getElem_of_mem (hp.symm.subset hmem)
  have hnd := rising_nodup hr
  have hpl : placeI (P.map Prod.fst) (stAt ss j) = (i : Int) := by
    refine place_some (by simpa using hi) ?_ fun q hq => ?_
    · rw [stAt_get (by simpa using hi), List.getElem_map, he, stAt_get hj]
      simp
    · rw [beq_eq_false_iff_ne]
      intro e
      have e : stAt (P.map Prod.fst) q = stAt ss j := eqS_iff.1 (by unfold eqS; rw [e]; simp)
      have hq' : q < (P.map Prod.fst).length := by rw [List.length_map]; omega
      have e2 : (P.map Prod.fst)[q] = (P.map Prod.fst)[i]'(by simpa using hi) := by
        rw [← stAt_get hq', e, stAt_get hj, List.getElem_map, he]
      have := (List.getElem_inj hnd).1 e2
      omega
  simp only [fieldT]
  rw [hpl, if_pos ⟨trivial, by omega, by rw [List.length_map]; omega⟩]
  rw [show ((i : Int)).toNat = i by omega, kAt_get (by simpa using hi), List.getElem_map, he, kAt_get hk]
theorem All2.app {α β : Type} {R : α → β → Prop} {l l' : List α} {m m' : List β} (h : All2 R l m) (g : All2 R l' m') : All2 R (l ++ l') (m ++ m') := by
  induction h with
  | nil => exact g
  | cons h _ ih => exact .cons h ih
theorem All2.drop {α β : Type} {R : α → β → Prop} {l : List α} {m : List β} (h : All2 R l m) : ∀ n, All2 R (l.drop n) (m.drop n) := by
  induction h with
  | nil => intro n; simp; exact .nil
  | cons h t ih =>
    intro n
    cases n with
    | zero => exact .cons h t
    | succ n => exact ih n
theorem All2.take {α β : Type} {R : α → β → Prop} {l : List α} {m : List β} (h : All2 R l m) : ∀ n, All2 R (l.take n) (m.take n) := by
  induction h with
  | nil => intro n; simp; exact .nil
  | cons h t ih =>
    intro n
    cases n with
    | zero => exact .nil
    | succ n => exact .cons h (ih n)
theorem All2.rot {α β : Type} {R : α → β → Prop} {l : List α} {m : List β} (h : All2 R l m) (n : Nat) : All2 R (rot n l) (rot n m) := (h.drop n).app (h.take n)
theorem row_fvs {w : World} {b : Nat} : ∀ (ks : List Ty5) (off : Nat), RowIn w b off ks → ∃ d : List FV, d.length = ks.length ∧ (∀ j c, (hj : j < d.length) → c < 5 → w.cell? ⟨b, off + j * 5 + c, none⟩ = d[j].ty[c]?) ∧ All2 (FVIs w) d (ks.map fun t => (⟨#[]⟩, t))
  | [], _, _ => ⟨[], rfl, fun j c hj => (by simp at hj), .nil⟩
  | t :: r, off, h => by
    obtain ⟨⟨v0, v1, v2, v3, v4, c0, c1, c2, c3, c4, ht⟩, hr⟩ := h
    obtain ⟨d, hd, hc, ha⟩ := row_fvs r (off + 5) hr
    obtain ⟨k, n, nm, a, l, c, a', l', c', rfl, rfl, rfl, rfl, rfl⟩ := ht.form
    refine ⟨⟨⟨#[]⟩, k, n, nm, a, l, c, a', l', c'⟩ :: d, by simp [hd], fun j q hj hq => ?_, .cons ⟨rfl, ht⟩ ha⟩
    match j, hj with
    | 0, _ =>
      match q, hq with
      | 0, _ => simpa [FV.ty] using c0
      | 1, _ => simpa [FV.ty] using c1
      | 2, _ => simpa [FV.ty] using c2
      | 3, _ => simpa [FV.ty] using c3
      | 4, _ => simpa [FV.ty] using c4
    | j + 1, hj =>
      have := hc j q (by simpa using hj) hq
      rw [show off + (j + 1) * 5 + q = off + 5 + j * 5 + q by omega, this]
      rfl
theorem news_part5 {w : World} {b off : Nat} {d : List FV} (hc : ∀ j c, (hj : j < d.length) → c < 5 → w.cell? ⟨b, off + j * 5 + c, none⟩ = d[j].ty[c]?) (lo n : Nat) (hn : lo + n ≤ d.length) :
    ∀ j u, (((d.drop lo).take n).flatMap FV.ty)[j]? = some u → w.cell? ((⟨b, off + lo * 5, none⟩ : Addr).add j) = some u := by
  intro j u hj
  have hlt := (List.getElem?_eq_some_iff.1 hj).1
  rw [ty_len, List.length_take, List.length_drop] at hlt
  have hq : j / 5 < ((d.drop lo).take n).length := by rw [List.length_take, List.length_drop]; omega
  have h := ty_get ((d.drop lo).take n) (j / 5) (j % 5) hq (by omega)
  rw [show j / 5 * 5 + j % 5 = j by omega, hj] at h
  rw [List.getElem_take, List.getElem_drop] at h
  have h2 := hc (lo + j / 5) (j % 5) (by omega) (by omega)
  rw [← h] at h2
  have e : (⟨b, off + lo * 5, none⟩ : Addr).add j = ⟨b, off + (lo + j / 5) * 5 + j % 5, none⟩ := by
    by_cases h0 : j = 0
    · subst h0; simp [Addr.add]
    · simp [Addr.add, h0]
      omega
  rw [e]
  exact h2
theorem oneCell_tys (d : List FV) : ∀ u ∈ d.flatMap FV.ty, u.oneCell' = true := by
  intro u hu
  obtain ⟨x, _, hx⟩ := List.mem_flatMap.1 hu
  simp [FV.ty] at hx
  rcases hx with rfl | rfl | rfl | rfl | rfl <;> rfl
structure FewIs (e : Ending) (n m : Nat) : Prop where
  out : ∃ b : Bool, e = .returned (.bool b) ∧ (b = true → n ≤ 60 ∧ m ≤ 60)
set_option maxRecDepth 20000 in
set_option maxHeartbeats 2000000 in
theorem few_any (v u : Value) (ss : List ByteArray) (ks : List Ty5) (w : World) (hs : StrsAt w v ss) (hk : KidsAt w u ks) (hkm : ks.length ≤ maxLen) :
    Calls Try.prog 28 #[v, u] w fun e w' => FewIs e ss.length ks.length ∧ Below w.heap.size w w' := by
  obtain ⟨a, cap, rfl⟩ := hk.form
  have hsl := hs.2.1
  obtain ⟨a1, cap1, rfl⟩ : ∃ a cap, v = .slice a ss.length cap := by
    rcases hs.2.2 with ⟨a, cap, rfl, rfl⟩ | ⟨b, off, cap, rfl, _⟩
    · exact ⟨a, cap, rfl⟩
    · exact ⟨_, cap, rfl⟩
  have HK := Asd.mk hk
  unfold maxLen at hkm hsl
  clear hk hs
  go_enter Try.func28, Try.ntmps28
  go_wp2
  go_loopw [5] (fun i wr => ∃ j : Nat, j ≤ ks.length ∧ j ≤ 100 ∧ i = .int .i64 j ∧ Below w.heap.size w wr) (fun i _ => ks.length - (intOf i).toNat)
  case atStart => exact ⟨0, by omega, by omega, rfl, Below.refl _ _⟩
  case round =>
    obtain ⟨j, hj, hj2, rfl, hb⟩ := hrel
    by_cases hlt : j < ks.length ∧ j < 100
    · obtain ⟨hlt, hlt2⟩ := hlt
      rcases HK.out with ⟨_, _, e, e'⟩ | ⟨b, off, cap', e, hr⟩
      · rw [e'] at hlt
        exact absurd hlt (Nat.not_lt_zero _)
      obtain ⟨rfl, rfl⟩ : a = some ⟨b, off, none⟩ ∧ cap = cap' := by simpa using e
      obtain ⟨x0, x1, x2, x3, x4, c0, c1, c2, c3, c4, ht⟩ := (hr.mono hb).at hlt
      have HT := Asd.mk ht
      have HB := Asd.mk hb
      clear ht hb hr e
      go_wp2_with fail
      refine (rmuch_some _ (kAt ks j) _ _ _ _ _ _ (Nat.le_refl _) HT.out).mono ?_
      rintro e w4 ⟨⟨n4, rfl⟩, hb4⟩
      by_cases h4 : 100 < n4
      · go_wp2
        go_ret
        exact ⟨⟨_, rfl, fun h => (by cases h)⟩, HB.out.trans (hb4.mono HB.out.size)⟩
      · go_wp2
        go_roundw
        case rel => exact ⟨j + 1, by omega, by omega, by go_num, HB.out.trans (hb4.mono HB.out.size)⟩
        case measure => simp [intOf]; omega
    · have HB := Asd.mk hb
      clear hb
      rcases (show ¬ j < ks.length ∨ (j < ks.length ∧ ¬ j < 100) by omega) with h | ⟨h, h'⟩
      all_goals
        by_cases h6 : ss.length ≤ 60
        · have h7 : (ss.length : Int) ≤ 60 := by omega
          go_wp2
          go_ret
          exact ⟨⟨_, rfl, fun h => ⟨h6, by have := of_decide_eq_true h; omega⟩⟩, HB.out⟩
        · have h7 : ¬ (ss.length : Int) ≤ 60 := by omega
          go_wp2
          go_ret
          exact ⟨⟨_, rfl, fun h => (by cases h)⟩, HB.out⟩
end Go.Proofs.Ytbfmaicoefefaaa
