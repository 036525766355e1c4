/- The evaluator over data (see NOTES, 'Pv'): part Pv7. -/
import Derived.Test.YtclhomkgphdagaaPv6
import Derived.Laws.BytesArg
namespace Go.Proofs.Ytclhomkgphdagaa.Pv
open Go Go.RowKit
section
variable {P : Program} {C : Cx} {h : H} {w : World}
def buildD (P : Program) (t : TypeId) (parts : List (Nat × D)) : Option D :=
  match P.info? t, P.underlying t with
  | some it, some (.array _ e) =>
    match it.zero, P.info? e with
    | some z, some ie => (afill (fun i => some (i * ie.size, ie.size)) (z.cells.toList.map D.raw) parts).map D.agg
    | _, _ => none
  | some it, some (.struct fields) =>
    match it.zero, fields.toList.mapM (fun f => (P.info? f.type).map fun i => (f.offset, i.size)) with
    | some z, some places => (afill (places.toArray[·]?) (z.cells.toList.map D.raw) parts).map D.agg
    | _, _ => none
  | _, _ => none
def PartsRd (C : Cx) (w : World) (parts : List (Nat × D)) (pv : List (Nat × Value)) : Prop :=
  (∀ j : Nat, (parts[j]?).map (fun p : Nat × D => p.1) = (pv[j]?).map (fun p : Nat × Value => p.1)) ∧ ∀ (j : Nat) (p : Nat × D) (q : Nat × Value), parts[j]? = some p → pv[j]? = some q → Rd C w p.2 q.2
theorem buildD_sound {t : TypeId} {parts : List (Nat × D)} {pv : Array (Nat × Value)} {d : D} (hp : PartsRd C w parts pv.toList) (e : buildD P t parts = some d) : ∃ v, (Instr.build t pv).run P w = .ok v w ∧ Rd C w d v := by
  unfold buildD at e
  split at e
  · rename_i it n el h1 h2
    split at e
    · rename_i z ie h3 h4
      rw [Option.map_eq_some_iff] at e
      obtain ⟨cs, hc, rfl⟩ := e
      obtain ⟨cv, k1, k2, _⟩ := afill_sound (cv := z.cells) hc (RdL.raws C w _) hp.1 hp.2
      refine ⟨_, run_build w t pv cv ?_, cv.toList, by simp, k2⟩
      simp only [Program.built, h1, h2, h3, h4]
      exact k1
    · cases e
  · rename_i it fields h1 h2
    split at e
    · rename_i z places h3 h4
      rw [Option.map_eq_some_iff] at e
      obtain ⟨cs, hc, rfl⟩ := e
      obtain ⟨cv, k1, k2, _⟩ := afill_sound (cv := z.cells) hc (RdL.raws C w _) hp.1 hp.2
      refine ⟨_, run_build w t pv cv ?_, cv.toList, by simp, k2⟩
      simp only [Program.built, h1, h2, h3, h4]
      exact k1
    · cases e
  · cases e
/-! ### buildSlice -/
def elemsD (P : Program) (e : TypeId) (sz : Nat) (cs : List D) : Nat → Option (List D)
  | 0 => some []
  | n + 1 => match elemsD P e sz cs n, partD P e cs (n * sz) with
    | some l, some d => some (l ++ [d])
    | _, _ => none
def rowZero (P : Program) (e : TypeId) (n sz : Nat) : Option (List Value) :=
  if n * sz = 0 then some [] else match P.info? e with
    | some i => match i.zero with
      | some z => if z.cells.all (·.oneCell') = true then some ((List.range (n * sz)).map (fun k => z.cells[k % z.cells.size]!)) else none
      | none => none
    | none => none
def buildRow (P : Program) (t : TypeId) (n : Nat) (parts : List (Nat × D)) : Option (TypeId × Nat × List D) :=
  match elemP P t with
  | some (e, inf) =>
    if 0 < inf.size ∧ n * inf.size ≤ 16777216 then
      match rowZero P e n inf.size with
      | some zs => match afill (fun i => some (i * inf.size, inf.size)) (zs.map D.raw) parts with
        | some cs => if cs.all leafD = true ∧ cs.length = n * inf.size then match elemsD P e inf.size cs n with
          | some l => some (e, inf.size, l)
          | none => none
          else none
        | none => none
      | none => none
    else none
  | none => none
theorem elemsD_get {e : TypeId} {sz : Nat} {cs : List D} : ∀ {n : Nat} {l : List D}, elemsD P e sz cs n = some l → l.length = n ∧ ∀ i, i < n → ∃ d, l[i]? = some d ∧ partD P e cs (i * sz) = some d
  | 0, l, h => by simp only [elemsD, Option.some.injEq] at h; subst h; exact ⟨rfl, fun i hi => absurd hi (Nat.not_lt_zero _)⟩
  | n + 1, l, h => by
    simp only [elemsD] at h
    split at h
    · rename_i l' d h1 h2
      cases h
      obtain ⟨k1, k2⟩ := elemsD_get h1
      refine ⟨by simp [k1], fun i hi => ?_⟩
      by_cases hin : i < n
      · obtain ⟨d', e1, e2⟩ := k2 i hin
        exact ⟨d', by rw [List.getElem?_append_left (by omega)]; exact e1, e2⟩
      · have : i = n := by omega
        subst this
        exact ⟨d, by rw [List.getElem?_append_right (by omega), k1]; simp, h2⟩
    · cases h
theorem partD_cells {t : TypeId} {ds : List D} {off : Nat} {d : D} {i : TypeInfo} (hi : P.info? t = some i) (e : partD P t ds off = some d) (hl : ds.all leafD = true) (h1 : ∀ dd, P.underlying t = some dd → dd.isRow = false → i.size = 1) {vs : List Value} (r : RdL C w ds vs) (hone : ∀ u ∈ vs, u.oneCell' = true) :
    ∃ u, Rd C w d u ∧ u.cells.size = i.size ∧ (∀ c ∈ u.cells.toList, c.oneCell' = true) ∧ ∀ j (hj : j < u.cells.size), vs[off + j]? = some u.cells[j] := by
  unfold partD at e
  split at e
  · rename_i sz ha
    obtain ⟨ds', i', k1, k2, k3, k4⟩ := aggP_some ha
    rw [hi] at k2
    cases k2
    split at e
    · rename_i hle
      cases e
      have hlen := r.len
      refine ⟨.agg ((vs.drop off).take sz).toArray, ⟨_, rfl, (r.drop off).take sz⟩, by simp [Value.cells, k4]; omega, fun c hc => ?_, fun j hj => ?_⟩
      · simp [Value.cells] at hc
        exact hone c (List.mem_of_mem_drop (List.mem_of_mem_take hc))
      · simp [Value.cells] at hj ⊢
    · cases e
  · rename_i sz ha
    obtain ⟨ds', i', k1, k2, k3, k4⟩ := aggP_some ha
    rw [hi] at k2
    cases k2
    obtain ⟨v, hv, hr⟩ := r.get e
    have hv1 := hone v (List.mem_of_getElem? hv)
    have hcells : v.cells = #[v] := by cases v <;> first | rfl | cases hv1
    refine ⟨v, hr, by rw [hcells, h1 ds' k1 k3]; rfl, fun c hc => ?_, fun j hj => ?_⟩
    · rw [hcells] at hc
      simp at hc
      subst hc
      exact hv1
    · have : j = 0 := by rw [hcells] at hj; simp at hj; omega
      subst this
      simp [hcells, hv]
  · cases e
theorem getElem!_all {z : Array Value} (hall : z.all (·.oneCell') = true) (k : Nat) : (z[k]!).oneCell' = true := by
  by_cases hk : k < z.size
  · rw [getElem!_pos z k hk]
    exact (Array.all_eq_true_iff_forall_mem.1 hall) _ (Array.getElem_mem hk)
  · rw [getElem!_neg z k hk]
    rfl
theorem rowZero_sound {e : TypeId} {n sz : Nat} {zs : List Value} (he : rowZero P e n sz = some zs) : (∀ u ∈ zs, u.oneCell' = true) ∧
    ((n * sz = 0 ∧ zs = []) ∨ (n * sz ≠ 0 ∧ ∃ i z, P.info? e = some i ∧ i.zero = some z ∧ zs.toArray = (Array.range (n * sz)).map (fun k => z.cells[k % z.cells.size]!))) := by
  unfold rowZero at he
  split at he
  · rename_i h0
    cases he
    exact ⟨fun u hu => (by cases hu), .inl ⟨h0, rfl⟩⟩
  · rename_i h0
    split at he
    · rename_i i hi
      split at he
      · rename_i z hz
        split at he
        · rename_i hall
          cases he
          refine ⟨fun u hu => ?_, .inr ⟨h0, i, z, hi, hz, ?_⟩⟩
          · obtain ⟨k, hk, rfl⟩ := List.mem_map.1 hu
            exact getElem!_all hall _
          · apply Array.ext'
            simp
        · cases he
      · cases he
    · cases he
theorem buildRow_core {t e : TypeId} {n sz : Nat} {parts : List (Nat × D)} {pv : Array (Nat × Value)} {l : List D} (hp : PartsRd C w parts pv.toList) (he : buildRow P t n parts = some (e, sz, l)) (h1 : ∀ i dd, P.info? e = some i → P.underlying e = some dd → dd.isRow = false → i.size = 1) :
    ∃ cv : Array Value, (Instr.buildSlice t n pv).run P w = .ok (.slice (some ⟨w.heap.size, 0, none⟩) n n) (w.alloc (.cells cv e)) ∧ cv.size = n * sz ∧ n ≤ maxLen ∧ l.length = n ∧ RdE C w sz l (fun j => cv[j]?) := by
  unfold buildRow at he
  split at he
  · rename_i el inf hel
    obtain ⟨hu, hi⟩ := elemP_some hel
    split at he
    · rename_i hcond
      obtain ⟨hpos, hbig⟩ := hcond
      split at he
      · rename_i zs hz
        split at he
        · rename_i cs hcs
          split at he
          · rename_i hall
            obtain ⟨hleaf, hlen⟩ := hall
            split at he
            · rename_i l' hl
              simp at he
              obtain ⟨rfl, rfl, rfl⟩ := he
              obtain ⟨hz2, hz1⟩ := rowZero_sound hz
              obtain ⟨cv, k1, k2, _⟩ := afill_sound (cv := zs.toArray) hcs (by simpa using RdL.raws C w zs) hp.1 hp.2
              obtain ⟨g1, g2⟩ := elemsD_get hl
              have hsz : cv.size = n * inf.size := by have := k2.len; simp at this; omega
              have hnm : n ≤ maxLen := by
                have : n ≤ n * inf.size := Nat.le_mul_of_pos_right _ hpos
                unfold maxLen
                omega
              have hone := k2.leaves hleaf
              refine ⟨cv, ?_, hsz, hnm, g1, ?_⟩
              · have hb : ¬ (n * inf.size > 2 ^ 24) := by omega
                simp only [Instr.buildSlice, Sem.run_bind, run_underlying hu, Result.andThen_ok, sizeOf, typeInfo, run_program, hi, Sem.run_pure]
                rw [if_neg hb]
                rcases hz1 with ⟨q1, rfl⟩ | ⟨q1, i, z, q2, q3, q4⟩
                · have e0 : (Array.map (fun x => (#[] : Array Value)[x % (#[] : Array Value).size]!) (Array.range (n * inf.size))) = ([] : List Value).toArray := by rw [q1]; simp
                  rw [if_pos q1]
                  simp only [Sem.run_bind, Sem.run_pure, Result.andThen_ok, e0, k1]
                  simp [newRow]
                · rw [hi] at q2
                  cases q2
                  rw [q4] at k1
                  rw [if_neg q1]
                  simp only [zeroValue, typeInfo, Sem.run_bind, run_program, Result.andThen_ok, hi, q3, Sem.run_pure, k1]
                  simp [newRow]
              · refine RdE.mk fun i d hd => ?_
                have hin : i < n := by
                  have := (List.getElem?_eq_some_iff.1 hd).1
                  omega
                obtain ⟨d', q1, q2⟩ := g2 i hin
                rw [hd] at q1
                cases q1
                obtain ⟨u, r1, r2, r3, r4⟩ := partD_cells hi q2 hleaf (fun dd => h1 inf dd hi) k2 (by simpa using hone)
                refine ⟨u, r1, r2, r3, fun j hj => ?_⟩
                have := r4 j hj
                rw [← this, Array.getElem?_toList]
            · cases he
          · cases he
        · cases he
      · cases he
    · cases he
  · cases he
theorem buildRow_sound (s : Sim C h w) {t e : TypeId} {n sz : Nat} {parts : List (Nat × D)} {pv : Array (Nat × Value)} {l : List D} (hp : PartsRd C w parts pv.toList) (he : buildRow P t n parts = some (e, sz, l)) (h1 : ∀ i dd, P.info? e = some i → P.underlying e = some dd → dd.isRow = false → i.size = 1) :
    ∃ v C' w', (Instr.buildSlice t n pv).run P w = .ok v w' ∧ Fw C w C' w' ∧ Sim C' (h ++ [.log e sz n]) w' ∧ Rd C' w' (.sl (some h.length) sz l) v ∧ l.length = n := by
  obtain ⟨cv, k1, hsz, hnm, g1, hr⟩ := buildRow_core hp he h1
  obtain ⟨C', f, s', hlg, hS, hcell⟩ := s.log_new e sz n cv hsz hnm
  refine ⟨.slice (some ⟨w.heap.size, 0, none⟩) n n, C', w.alloc (.cells cv e), k1, f, s', ?_, g1⟩
  refine ⟨⟨_, _, by rw [g1], by rw [g1]; exact Nat.le_refl _, hnm⟩, fun h0 => ⟨_, 0, n, by rw [g1], fun i hi' => by rw [Nat.zero_add]; exact hS i (by rw [← g1]; exact hi'), ?_⟩, fun id e => ?_⟩
  · refine RdE.mono f.toEv sz l _ _ hr fun i hi => ?_
    rw [Nat.zero_add]
    exact hcell i
  · cases e
    exact ⟨_, hlg, by rw [g1]; exact Nat.le_refl _, fun _ => rfl⟩
/-! ### bytes as a text -/
def numsD : List D → Option (List Int)
  | [] => some []
  | .raw (.int .u8 n) :: r => (numsD r).map (n :: ·)
  | _ => none
theorem numsD_get : ∀ {ds : List D} {ns : List Int}, numsD ds = some ns → ds.length = ns.length ∧ ∀ i, i < ns.length → ds[i]? = some (.raw (.int .u8 (ns.getD i 0)))
  | [], ns, e => by simp only [numsD, Option.some.injEq] at e; subst e; exact ⟨rfl, fun i hi => absurd hi (Nat.not_lt_zero _)⟩
  | d :: r, ns, e => by
    unfold numsD at e
    split at e
    · rename_i h; cases h
    · rename_i n r' heq
      cases heq
      rw [Option.map_eq_some_iff] at e
      obtain ⟨ns', h1, rfl⟩ := e
      obtain ⟨k1, k2⟩ := numsD_get h1
      refine ⟨by simp [k1], fun i hi => ?_⟩
      cases i with
      | zero => simp
      | succ i =>
        have := k2 i (by simpa using hi)
        simpa using this
    · cases e
def convD (P : Program) (src dst : TypeId) (x : D) : Option D :=
  match P.underlying src, P.underlying dst, x with
  | some (.slice e), some .string, .sl _ sz ds => match P.underlying e with
    | some (.int .u8) => if sz = 1 then (numsD ds).map fun ns => .raw (.string (strOfNums ns)) else none
    | _ => none
  | _, _, _ => none
theorem strOfNums_nil : strOfNums [] = ByteArray.empty := rfl
theorem convD_sound {src dst : TypeId} {x d : D} {xv : Value} (hx : Rd C w x xv) (e : convD P src dst x = some d) : ∃ v, (convert src dst xv).run P w = .ok v w ∧ Rd C w d v := by
  unfold convD at e
  split at e
  · rename_i _ _ _ el tag sz ds h1 h2
    split at e
    · rename_i h3
      split at e
      · rename_i hsz
        subst hsz
        rw [Option.map_eq_some_iff] at e
        obtain ⟨ns, hn, rfl⟩ := e
        obtain ⟨k1, k2⟩ := numsD_get hn
        obtain ⟨⟨a, cap, rfl, _⟩, hx2, _⟩ := hx
        refine ⟨_, ?_, rfl⟩
        by_cases h0 : 0 < ds.length
        · obtain ⟨b, off, cap', hv, _, hr⟩ := hx2 h0
          simp at hv
          obtain ⟨rfl, rfl⟩ := hv
          refine run_convert_bytes_arg w src el h1 h3 b off ds.length cap ns k1.symm (fun i hi => ?_) dst h2
          obtain ⟨u, r1, _, _, r4⟩ := hr.get (k2 i (by omega))
          simp only [Rd] at r1
          subst r1
          have := r4 0 (by simp [Value.cells])
          simpa [Value.cells] using this
        · have hd : ds = [] := List.eq_nil_of_length_eq_zero (by omega)
          subst hd
          have : ns = [] := List.eq_nil_of_length_eq_zero (by simpa using k1.symm)
          subst this
          cases a with
          | none => exact run_convert_bytes_nil w src el h1 h3 _ _ dst h2
          | some p =>
            have := run_convert_bytes_string (P := P) w src dst el (some p) 0 cap h1 h3 h2
            have h2' := run_bytesToString (P := P) w p 0 cap [] (by simp [loadCells, loadCellsFrom])
            rw [show ([] : List D).length = 0 from rfl, this, h2']
            rfl
      · cases e
    · cases e
  · cases e
end
end Go.Proofs.Ytclhomkgphdagaa.Pv
