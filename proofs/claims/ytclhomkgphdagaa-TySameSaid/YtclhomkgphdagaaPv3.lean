/- The evaluator over data (see NOTES, 'Pv'): part Pv3. -/
import Derived.Test.YtclhomkgphdagaaPv2
namespace Go.Proofs.Ytclhomkgphdagaa.Pv
open Go Go.RowKit
section
variable {C : Cx} {h : H} {w : World}
theorem cell_row {w : World} {b o : Nat} {cs : Array Value} {t : TypeId} {fr : Nat × Nat} (hg : w.heap[b]? = some (.cells cs t fr)) : w.cell? ⟨b, o, none⟩ = cs[o]? := by
  simp [World.cell?, hg]
theorem Fw.setRow {id b : Nat} (hb : C.blk id b) {cur cs : Array Value} {t : TypeId} (hg : w.heap[b]? = some (.cells cur t (0, 0))) (hk : ∀ o, C.S b o → cs[o]? = cur[o]?) : Fw C w C (w.setRow b cs) := by
  refine ⟨⟨rfl, rfl, rfl, by simp, fun _ _ h => h, fun b' o hs => ?_, fun _ _ h => h, fun _ u h => ⟨u, h, .inl rfl⟩⟩, fun b' _ hn => setRow_other _ _ _ _ fun e => hn id (e ▸ hb), fun id' _ h' _ => ⟨id', h'⟩, fun _ _ h' _ => .inl h'⟩
  by_cases e : b' = b
  · subst e
    rw [cell_setRow_same w b' o cur cs t (0, 0) hg, cell_row hg]
    exact hk o hs
  · exact cell_setRow_other _ _ _ _ e
/-- A store into a box. -/
theorem Sim.store (s : Sim C h w) {id : Nat} {t : TypeId} {ds es : List D} {b : Nat} {vs : Array Value} (e : h[id]? = some (.box t ds)) (hb : C.bx id = some b) (hg : w.heap[b]? = some (.cells vs t (0, 0)))
    (hS : ∀ o, ¬ C.S b o) {us : Array Value} (r : RdL C w es us.toList) (h1 : ∀ u ∈ us.toList, u.oneCell' = true) :
    Fw C w C (w.setRow b us) ∧ Sim C (h.set id (.box t es)) (w.setRow b us) := by
  have f : Fw C w C (w.setRow b us) := Fw.setRow (id := id) (.inl hb) hg fun o hs => absurd hs (hS o)
  have hid : id < h.length := (List.getElem?_eq_some_iff.1 e).1
  refine ⟨f, fun b' o hs => (by simpa using s.S b' o hs), fun id' t' ds' e' => ?_, fun id' e1 sz n e' => ?_, fun id' b' hb' => (by simpa using s.lt id' b' hb'), fun id' b' hb' => (by simpa using s.idb id' b' hb'), fun id' u hu => (by simpa using s.idl id' u hu), s.inj, s.one⟩
  · by_cases hi : id' = id
    · subst hi
      rw [List.getElem?_set_self hid] at e'
      simp at e'
      obtain ⟨rfl, rfl⟩ := e'
      exact ⟨b, us, hb, setRow_heap w b vs us t (0, 0) hg, r.mono f.toEv, h1, hS⟩
    · rw [List.getElem?_set_ne (fun e => hi e.symm)] at e'
      obtain ⟨b', vs', h2, h3, h4, h5, h6⟩ := s.box id' t' ds' e'
      refine ⟨b', vs', h2, ?_, h4.mono f.toEv, h5, h6⟩
      rw [setRow_other _ _ _ _ fun e => hi (s.inj id' id b (.inl (h2.trans (congrArg some e))) (.inl hb))]
      exact h3
  · have hi : id' ≠ id := fun hi => by
      subst hi
      rw [List.getElem?_set_self hid] at e'
      simp at e'
    rw [List.getElem?_set_ne (fun e => hi e.symm)] at e'
    obtain ⟨u, xs, h2, h3, h4⟩ := s.log id' e1 sz n e'
    refine ⟨u, xs, h2, ?_, h4⟩
    refine h3.kept (row := some b) ⟨rfl, rfl, rfl, by simp, fun k _ hne => setRow_other _ _ _ _ fun e => hne (by rw [e])⟩ ?_
    right
    intro he
    exact hi (s.inj id' id b (.inr ⟨u, h2, he⟩) (.inl hb))
/-! ### Logs -/
theorem ownsRow_form {e sz : Nat} {u : Value} {n : Nat} {xs : List Value} (h : w.ownsRow 0 e sz u n xs) : ∃ a cap, u = .slice a n cap ∧ n ≤ cap ∧ cap ≤ maxLen := by
  rcases h.2 with ⟨rfl, rfl⟩ | ⟨g, cap, cur, rfl, _, _, h1, h2, _⟩
  · exact ⟨_, _, rfl, Nat.le_refl _, by unfold maxLen; omega⟩
  · exact ⟨_, _, rfl, h1, h2⟩
theorem ownsRow_len {e sz : Nat} {u : Value} {n : Nat} {xs : List Value} (h : w.ownsRow 0 e sz u n xs) : lenV u = n := by
  obtain ⟨a, cap, rfl, _⟩ := ownsRow_form h
  rfl
/-- A log of a nil slice: no block, nothing has turned. -/
theorem Sim.log_nil (s : Sim C h w) (e sz : Nat) : ∃ C', Fw C w C' w ∧ Sim C' (h ++ [.log e sz 0]) w ∧ C'.lg h.length = some (.slice none 0 0) := by
  obtain ⟨fb, fl⟩ := s.fresh
  let C' : Cx := { C with lg := setf C.lg h.length (.slice none 0 0) }
  have hblk : ∀ id b, C'.blk id b → C.blk id b := fun id b hb => by
    rcases hb with hb | ⟨u, hu, hb⟩
    · exact .inl hb
    · by_cases e : id = h.length
      · subst e
        have : some (Value.slice none 0 0) = some u := (setf_same _ _ _).symm.trans hu
        cases this
        simp [Value.ownBlock] at hb
      · exact .inr ⟨u, (setf_other _ _ e).symm.trans hu, hb⟩
  have f : Fw C w C' w := ⟨⟨rfl, rfl, rfl, Nat.le_refl _, fun _ _ h => h, fun _ _ _ => rfl, fun _ _ h => h, fun id u hu => ⟨u, by
    have : id ≠ h.length := fun e => by subst e; rw [fl] at hu; cases hu
    exact (setf_other _ _ this).trans hu, .inl rfl⟩⟩, fun _ _ _ => rfl, fun id b hb _ => ⟨id, hblk id b hb⟩, fun _ _ h _ => .inl h⟩
  refine ⟨C', f, ⟨s.S, fun id t ds e' => ?_, fun id e1 sz1 n e' => ?_, fun id b hb => s.lt id b (hblk id b hb), fun id b hb => ?_, fun id u hu => ?_, fun id id' b hb hb' => s.inj id id' b (hblk id b hb) (hblk id' b hb'), fun id b hb => ?_⟩, setf_same _ _ _⟩
  · have hid : id < h.length := by
      have := (List.getElem?_eq_some_iff.1 e').1
      by_cases hid : id < h.length
      · exact hid
      · simp at this
        have hid' : id = h.length := by omega
        subst hid'
        simp at e'
    rw [List.getElem?_append_left hid] at e'
    obtain ⟨b, vs, h1, h2, h3, h4, h5⟩ := s.box id t ds e'
    exact ⟨b, vs, h1, h2, h3.mono f.toEv, h4, h5⟩
  · by_cases hid : id < h.length
    · rw [List.getElem?_append_left hid] at e'
      obtain ⟨u, xs, h1, h2, h3⟩ := s.log id e1 sz1 n e'
      exact ⟨u, xs, (setf_other _ _ (by omega)).trans h1, h2, h3⟩
    · have hid' : id = h.length := by
        have := (List.getElem?_eq_some_iff.1 e').1
        simp at this
        omega
      subst hid'
      simp at e'
      obtain ⟨rfl, rfl, rfl⟩ := e'
      exact ⟨_, [], setf_same _ _ _, World.ownsRow_nil _ _ _ _, fun b o hb => by simp [Value.ownBlock] at hb⟩
  · have := s.idb id b hb
    simp; omega
  · by_cases e : id = h.length
    · simp [e]
    · have := s.idl id u ((setf_other _ _ e).symm.trans hu)
      simp; omega
  · have : id ≠ h.length := fun e => by
      have := s.idb id b hb
      omega
    exact (setf_other _ _ this).trans (s.one id b hb)
/-- A new row, as a log: all of it is told. -/
theorem Sim.log_new (s : Sim C h w) (e sz n : Nat) (cur : Array Value) (hn : cur.size = n * sz) (hm : n ≤ maxLen) :
    ∃ C', Fw C w C' (w.alloc (.cells cur e)) ∧ Sim C' (h ++ [.log e sz n]) (w.alloc (.cells cur e)) ∧ C'.lg h.length = some (.slice (some ⟨w.heap.size, 0, none⟩) n n) ∧ (∀ o, o < n * sz → C'.S w.heap.size o) ∧ ∀ o, (w.alloc (.cells cur e)).cell? ⟨w.heap.size, o, none⟩ = cur[o]? := by
  obtain ⟨fb, fl⟩ := s.fresh
  let C1 := C.grow w (fun o => o < n * sz)
  have s1 : Sim C1 h (w.alloc (.cells cur e)) := s.alloc _ _
  have f1 : Fw C w C1 (w.alloc (.cells cur e)) := Fw.alloc s _ _
  let u : Value := .slice (some ⟨w.heap.size, 0, none⟩) n n
  let C' : Cx := { C1 with lg := setf C.lg h.length u }
  have hblk : ∀ id b, C'.blk id b → C.blk id b ∨ (id = h.length ∧ b = w.heap.size) := fun id b hb => by
    rcases hb with hb | ⟨u', hu, hb⟩
    · exact .inl (.inl hb)
    · by_cases e : id = h.length
      · subst e
        have : some u = some u' := (setf_same _ _ _).symm.trans hu
        cases this
        simp [u, Value.ownBlock] at hb
        exact .inr ⟨rfl, hb.symm⟩
      · exact .inl (.inr ⟨u', (setf_other _ _ e).symm.trans hu, hb⟩)
  have hlg : ∀ id x, C.lg id = some x → C'.lg id = some x := fun id x hx => by
    have : id ≠ h.length := fun e => by subst e; rw [fl] at hx; cases hx
    exact (setf_other _ _ this).trans hx
  have e1 : Ev C1 (w.alloc (.cells cur e)) C' (w.alloc (.cells cur e)) := ⟨rfl, rfl, rfl, Nat.le_refl _, fun _ _ h => h, fun _ _ _ => rfl, fun id b hb => hb, fun id x hx => ⟨x, hlg id x hx, .inl rfl⟩⟩
  have f : Fw C w C' (w.alloc (.cells cur e)) := by
    have e0 := f1.toEv
    refine ⟨⟨rfl, rfl, rfl, e0.size, e0.sub, e0.cell, fun id b hb => hb, fun id x hx => ⟨x, hlg id x hx, .inl rfl⟩⟩, f1.frame, fun id b hb hlt => ?_, f1.new⟩
    rcases hblk id b hb with h' | ⟨_, rfl⟩
    · exact ⟨id, h'⟩
    · omega
  refine ⟨C', f, ⟨s1.S, fun id t ds e' => ?_, fun id e2 sz2 n2 e' => ?_, fun id b hb => ?_, fun id b hb => ?_, fun id x hx => ?_, fun id id' b hb hb' => ?_, fun id b hb => ?_⟩, setf_same _ _ _, fun o ho => .inr ⟨rfl, ho⟩, fun o => World.cell?_alloc_new w _ _ o⟩
  · have hid : id < h.length := by
      have := (List.getElem?_eq_some_iff.1 e').1
      by_cases hid : id < h.length
      · exact hid
      · simp at this
        have hid' : id = h.length := by omega
        subst hid'
        simp at e'
    rw [List.getElem?_append_left hid] at e'
    obtain ⟨b, vs, h1, h2, h3, h4, h5⟩ := s1.box id t ds e'
    exact ⟨b, vs, h1, h2, h3.mono e1, h4, h5⟩
  · by_cases hid : id < h.length
    · rw [List.getElem?_append_left hid] at e'
      obtain ⟨x, xs, h1, h2, h3⟩ := s1.log id e2 sz2 n2 e'
      exact ⟨x, xs, hlg id x h1, h2, h3⟩
    · have hid' : id = h.length := by
        have := (List.getElem?_eq_some_iff.1 e').1
        simp at this
        omega
      subst hid'
      simp at e'
      obtain ⟨rfl, rfl, rfl⟩ := e'
      refine ⟨u, cur.toList, setf_same _ _ _, ⟨by simpa using hn, .inr ⟨w.heap.size, n, cur, rfl, Nat.zero_le _, heap_alloc_new w _, Nat.le_refl _, hm, hn, by rw [List.take_of_length_le (by simp [hn])]⟩⟩, fun b o hb hs => ?_⟩
      simp [u, Value.ownBlock] at hb
      subst hb
      rcases hs with hs | ⟨_, hs⟩
      · exact absurd (s.S _ _ hs) (Nat.lt_irrefl _)
      · exact hs
  · rcases hblk id b hb with h' | ⟨_, rfl⟩
    · exact s1.lt id b h'
    · simp
  · have := s.idb id b hb
    simp; omega
  · by_cases e : id = h.length
    · simp [e]
    · have := s.idl id x ((setf_other _ _ e).symm.trans hx)
      simp; omega
  · rcases hblk id b hb with h2 | ⟨rfl, rfl⟩ <;> rcases hblk id' _ hb' with h3 | ⟨rfl, e⟩
    · exact s.inj id id' b h2 h3
    · subst e; exact absurd (s.lt id _ h2) (Nat.lt_irrefl _)
    · exact absurd (s.lt id' _ h3) (Nat.lt_irrefl _)
    · rfl
  · have : id ≠ h.length := fun e => by
      have := s.idb id b hb
      omega
    exact (setf_other _ _ this).trans (s.one id b hb)
/-- A log has a new value: in its block, or in a new one. -/
theorem Sim.log_turn (s : Sim C h w) {id e sz n : Nat} (he : h[id]? = some (.log e sz n)) {u : Value} {xs : List Value} (hu : C.lg id = some u) (ho : w.ownsRow 0 e sz u n xs) (hS0 : ∀ b o, u.ownBlock = some b → C.S b o → o < n * sz)
    {m : Nat} (hm : 0 < m) {w' : World} {v : Value} {ys : List Value} (hown : w'.ownsRow 0 e sz v (n + m) ys) (hgrow : w.grownBy w' u.ownBlock)
    {g : Nat} (hg : v.ownBlock = some g) (hat : u.ownBlock = some g ∨ g = w.heap.size) (hkeep : ∀ b o, u.ownBlock = some b → o < n * sz → w'.cell? ⟨b, o, none⟩ = w.cell? ⟨b, o, none⟩) :
    ∃ C', Fw C w C' w' ∧ Sim C' (h.set id (.log e sz (n + m))) w' ∧ C'.lg id = some v ∧ ∀ o, o < (n + m) * sz → C'.S g o := by
  have hid : id < h.length := (List.getElem?_eq_some_iff.1 he).1
  have hlu := ownsRow_len ho
  have hlv := ownsRow_len hown
  have hglt : g < w'.heap.size := (hown.lt g hg).2
  let C' : Cx := { S := fun b o => C.S b o ∨ (b = g ∧ o < (n + m) * sz), bx := C.bx, lg := setf C.lg id v }
  have hbxid : ∀ b, C.bx id ≠ some b := fun b hb => by rw [s.one id b hb] at hu; cases hu
  have hblk : ∀ id' b, C'.blk id' b → (id' ≠ id ∧ C.blk id' b) ∨ (id' = id ∧ b = g) := fun id' b hb => by
    rcases hb with hb | ⟨u', hu', hb⟩
    · exact .inl ⟨fun e => hbxid b (e ▸ hb), .inl hb⟩
    · by_cases e : id' = id
      · subst e
        have : some v = some u' := (setf_same _ _ _).symm.trans hu'
        cases this
        rw [hg] at hb
        exact .inr ⟨rfl, (Option.some.inj hb).symm⟩
      · exact .inl ⟨e, .inr ⟨u', (setf_other _ _ e).symm.trans hu', hb⟩⟩
  have hkc : ∀ b o, C.S b o → w'.cell? ⟨b, o, none⟩ = w.cell? ⟨b, o, none⟩ := fun b o hs => by
    by_cases e : some b = u.ownBlock
    · exact hkeep b o e.symm (hS0 b o e.symm hs)
    · exact World.cell?_of_block (a := ⟨b, o, none⟩) (hgrow.block b (s.S b o hs) e)
  have f : Fw C w C' w' := by
    refine ⟨⟨hgrow.os, hgrow.tape, hgrow.output, hgrow.size, fun _ _ h => .inl h, hkc, fun _ _ h => h, fun id' x hx => ?_⟩, fun b hb hn => ?_, fun id' b hb hlt => ?_, fun b o hs hlt => ?_⟩
    · by_cases e : id' = id
      · subst e
        rw [hu] at hx
        cases hx
        exact ⟨v, setf_same _ _ _, .inr (by rw [hlu, hlv]; omega)⟩
      · exact ⟨x, (setf_other _ _ e).trans hx, .inl rfl⟩
    · exact hgrow.block b hb fun e => hn id (.inr ⟨u, hu, e.symm⟩)
    · rcases hblk id' b hb with ⟨_, h'⟩ | ⟨_, rfl⟩
      · exact ⟨id', h'⟩
      · rcases hat with h' | rfl
        · exact ⟨id, .inr ⟨u, hu, h'⟩⟩
        · omega
    · rcases hs with hs | ⟨rfl, _⟩
      · exact .inl hs
      · rcases hat with h' | rfl
        · exact .inr ⟨id, .inr ⟨u, hu, h'⟩⟩
        · omega
  have hnb : ∀ id' b, id' ≠ id → C.blk id' b → b ≠ g := fun id' b hne hb e => by
    subst e
    rcases hat with h' | rfl
    · exact hne (s.inj id' id b hb (.inr ⟨u, hu, h'⟩))
    · exact absurd (s.lt id' _ hb) (Nat.lt_irrefl _)
  have hub : ∀ id' b, id' ≠ id → C.blk id' b → some b ≠ u.ownBlock := fun id' b hne hb e => hne (s.inj id' id b hb (.inr ⟨u, hu, e.symm⟩))
  refine ⟨C', f, ⟨fun b o hs => ?_, fun id' t ds e' => ?_, fun id' e2 sz2 n2 e' => ?_, fun id' b hb => ?_, fun id' b hb => (by simpa using s.idb id' b hb), fun id' x hx => ?_, fun id1 id2 b hb hb' => ?_, fun id' b hb => ?_⟩, setf_same _ _ _, fun o ho => .inr ⟨rfl, ho⟩⟩
  · rcases hs with hs | ⟨rfl, _⟩
    · exact Nat.lt_of_lt_of_le (s.S b o hs) hgrow.size
    · exact hglt
  · have hi : id' ≠ id := fun hi => by
      subst hi
      rw [List.getElem?_set_self hid] at e'
      simp at e'
    rw [List.getElem?_set_ne (fun e => hi e.symm)] at e'
    obtain ⟨b, vs, h1, h2, h3, h4, h5⟩ := s.box id' t ds e'
    refine ⟨b, vs, h1, ?_, h3.mono f.toEv, h4, fun o hs => ?_⟩
    · rw [hgrow.block b (s.lt id' b (.inl h1)) (hub id' b hi (.inl h1))]
      exact h2
    · rcases hs with hs | ⟨e, _⟩
      · exact h5 o hs
      · exact hnb id' b hi (.inl h1) e
  · by_cases hi : id' = id
    · subst hi
      rw [List.getElem?_set_self hid] at e'
      simp at e'
      obtain ⟨rfl, rfl, rfl⟩ := e'
      refine ⟨v, ys, setf_same _ _ _, hown, fun b o hb hs => ?_⟩
      rw [hg] at hb
      cases hb
      rcases hs with hs | ⟨_, hs⟩
      · rcases hat with h' | rfl
        · have := hS0 g o h' hs
          have : n * sz ≤ (n + m) * sz := Nat.mul_le_mul_right _ (by omega)
          omega
        · exact absurd (s.S _ _ hs) (Nat.lt_irrefl _)
      · exact hs
    · rw [List.getElem?_set_ne (fun e => hi e.symm)] at e'
      obtain ⟨x, zs, h1, h2, h3⟩ := s.log id' e2 sz2 n2 e'
      refine ⟨x, zs, (setf_other _ _ hi).trans h1, ?_, fun b o hb hs => ?_⟩
      · refine h2.kept hgrow ?_
        cases hx : x.ownBlock with
        | none => exact .inl rfl
        | some k => exact .inr fun e => hub id' k hi (.inr ⟨x, h1, hx⟩) e
      · rcases hs with hs | ⟨e, _⟩
        · exact h3 b o hb hs
        · exact absurd e (hnb id' b hi (.inr ⟨x, h1, hb⟩))
  · rcases hblk id' b hb with ⟨_, h'⟩ | ⟨_, rfl⟩
    · exact Nat.lt_of_lt_of_le (s.lt id' b h') hgrow.size
    · exact hglt
  · by_cases e : id' = id
    · subst e; simpa using hid
    · have := s.idl id' x ((setf_other _ _ e).symm.trans hx)
      simpa using this
  · rcases hblk id1 b hb with ⟨n1, h2⟩ | ⟨rfl, rfl⟩ <;> rcases hblk id2 _ hb' with ⟨n2, h3⟩ | ⟨rfl, e⟩
    · exact s.inj id1 id2 b h2 h3
    · exact absurd e (hnb id1 b n1 h2)
    · exact absurd rfl (hnb id2 _ n2 h3)
    · rfl
  · have : id' ≠ id := fun e => hbxid b (e ▸ hb)
    exact (setf_other _ _ this).trans (s.one id' b hb)
end
end Go.Proofs.Ytclhomkgphdagaa.Pv
