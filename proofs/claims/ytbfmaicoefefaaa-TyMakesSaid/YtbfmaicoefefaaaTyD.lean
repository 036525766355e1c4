/- Types as data: what a struct K, N, Name, Labels, Args with a slice of its own kind reads as. Of no program's numbers. -/
import Derived.Test.YtbfmaicoefefaaaRows
import Derived.WalkKit
import Derived.ProofKit
import Derived.OpenShut
import Derived.Below
import Derived.Deep.Slices
import Derived.Deep.Fields
import Derived.Deep.Strs
import Derived.ChangeSame
import Derived.Lib.SmallJoins
set_option linter.unusedSimpArgs false
set_option linter.unusedVariables false
namespace Go.Proofs.Ytbfmaicoefefaaa
open Go.ChangeShapes Go.WideShapes Go.RowKit Go.Deep
/-- A type, read. -/
inductive Ty5 where
  | mk (k n : Int) (nm : ByteArray) (ls : List ByteArray) (ks : List Ty5)
def stAt (ss : List ByteArray) (j : Nat) : ByteArray := ss.getD j ByteArray.empty
theorem stAt_get {ss : List ByteArray} {j : Nat} (h : j < ss.length) : stAt ss j = ss[j] := by
  unfold stAt
  rw [List.getD_eq_getElem?_getD, List.getElem?_eq_getElem h]
  rfl
/-- The slice v holds the texts ss. -/
def StrsAt (w : World) (v : Value) (ss : List ByteArray) : Prop :=
  (∀ s, s ∈ ss → s.size ≤ maxLen) ∧ ss.length ≤ maxLen ∧
  ((∃ a cap, v = .slice a 0 cap ∧ ss = []) ∨
   ∃ b off cap, v = .slice (some ⟨b, off, none⟩) ss.length cap ∧ b < w.heap.size ∧ ∀ j, j < ss.length → w.cell? ⟨b, off + j, none⟩ = some (.string (stAt ss j)))
theorem StrsAt.mono {w w' : World} {v : Value} {ss : List ByteArray} (h : StrsAt w v ss) (hb : Below w.heap.size w w') : StrsAt w' v ss := by
  obtain ⟨h1, h2, h3⟩ := h
  refine ⟨h1, h2, ?_⟩
  rcases h3 with h3 | ⟨b, off, cap, rfl, hlt, hc⟩
  · exact .inl h3
  · exact .inr ⟨b, off, cap, rfl, Nat.lt_of_lt_of_le hlt hb.size, fun j hj => (hb.cell (p := ⟨b, off + j, none⟩) hlt).trans (hc j hj)⟩

/-- A slice value with that many elements. -/
def SliceAt (v : Value) (a : Option Addr) (n : Nat) : Prop := ∃ cap, v = .slice a n cap
mutual
/-- The five values of a struct read as a type. -/
def TyIn (w : World) : Ty5 → Value → Value → Value → Value → Value → Prop
  | .mk k n nm ls ks, v0, v1, v2, v3, v4 =>
    v0 = .int .i64 k ∧ v1 = .int .i64 n ∧ (v2 = .string nm ∧ nm.size ≤ maxLen) ∧ StrsAt w v3 ls ∧ ks.length ≤ maxLen ∧
      ((∃ a cap, v4 = .slice a 0 cap ∧ ks = []) ∨ ∃ b off cap, v4 = .slice (some ⟨b, off, none⟩) ks.length cap ∧ RowIn w b off ks)
/-- A row of structs, from a place on. -/
def RowIn (w : World) : Nat → Nat → List Ty5 → Prop
  | _, _, [] => True
  | b, off, t :: r => (∃ v0 v1 v2 v3 v4, w.cell? ⟨b, off, none⟩ = some v0 ∧ w.cell? ⟨b, off + 1, none⟩ = some v1 ∧ w.cell? ⟨b, off + 2, none⟩ = some v2 ∧ w.cell? ⟨b, off + 3, none⟩ = some v3 ∧ w.cell? ⟨b, off + 4, none⟩ = some v4 ∧ TyIn w t v0 v1 v2 v3 v4) ∧ RowIn w b (off + 5) r
end
mutual
theorem TyIn.mono {w w' : World} (hb : Below w.heap.size w w') : ∀ {t : Ty5} {v0 v1 v2 v3 v4 : Value}, TyIn w t v0 v1 v2 v3 v4 → TyIn w' t v0 v1 v2 v3 v4
  | .mk k n nm ls ks, v0, v1, v2, v3, v4, h => by
    obtain ⟨h0, h1, h2, h3, h4, h5⟩ := h
    refine ⟨h0, h1, h2, h3.mono hb, h4, ?_⟩
    rcases h5 with h5 | ⟨b, off, cap, h6, h7⟩
    · exact .inl h5
    · exact .inr ⟨b, off, cap, h6, RowIn.mono hb h7⟩
theorem RowIn.mono {w w' : World} (hb : Below w.heap.size w w') : ∀ {b off : Nat} {ks : List Ty5}, RowIn w b off ks → RowIn w' b off ks
  | _, _, [], _ => trivial
  | b, off, t :: r, h => by
    obtain ⟨⟨v0, v1, v2, v3, v4, c0, c1, c2, c3, c4, ht⟩, hr⟩ := h
    have k : ∀ {a : Addr} {v : Value}, w.cell? a = some v → w'.cell? a = some v := fun {a v} hc => by
      rw [← hc]
      exact hb.cell (Nat.lt_of_not_le fun hn => by simp [World.cell?, Array.getElem?_eq_none hn] at hc)
    exact ⟨⟨v0, v1, v2, v3, v4, k c0, k c1, k c2, k c3, k c4, TyIn.mono hb ht⟩, RowIn.mono hb hr⟩
end
/-- The element at a place of a row. -/
theorem RowIn.get {w : World} : ∀ {b off : Nat} {ks : List Ty5} {j : Nat} (hj : j < ks.length), RowIn w b off ks →
    ∃ v0 v1 v2 v3 v4, w.cell? ⟨b, off + j * 5, none⟩ = some v0 ∧ w.cell? ⟨b, off + j * 5 + 1, none⟩ = some v1 ∧ w.cell? ⟨b, off + j * 5 + 2, none⟩ = some v2 ∧ w.cell? ⟨b, off + j * 5 + 3, none⟩ = some v3 ∧ w.cell? ⟨b, off + j * 5 + 4, none⟩ = some v4 ∧ TyIn w ks[j] v0 v1 v2 v3 v4
  | b, off, t :: r, 0, _, h => by
    obtain ⟨v0, v1, v2, v3, v4, h⟩ := h.1
    exact ⟨v0, v1, v2, v3, v4, by simpa using h⟩
  | b, off, t :: r, j + 1, hj, h => by
    have := RowIn.get (j := j) (by simpa using hj) h.2
    obtain ⟨v0, v1, v2, v3, v4, h⟩ := this
    refine ⟨v0, v1, v2, v3, v4, ?_⟩
    have e : off + 5 + j * 5 = off + (j + 1) * 5 := by omega
    rw [e] at h
    exact h

mutual
/-- How much a type holds: its nodes, and the bytes of its names. -/
def szT : Ty5 → Nat
  | .mk _ _ nm ls ks => 1 + nm.size + szS ls + szL ks
def szL : List Ty5 → Nat
  | [] => 0
  | t :: r => szT t + szL r
def szS : List ByteArray → Nat
  | [] => 0
  | s :: r => s.size + 1 + szS r
end
theorem bulk_strs {H : Type} : ∀ ss : List ByteArray, Rows.uptoBulkAll (strs ss : List (DataW H)) = szS ss
  | [] => rfl
  | s :: r => by
    show Rows.uptoBulk (.lit (.string s.data.toList)) + Rows.uptoBulkAll (strs r : List (DataW H)) = _
    rw [bulk_strs r]
    simp [szS, Rows.uptoBulk]
section
variable {H : Type} {enc : TypeId × Value → H} {P : Program} {w : World} {base : Nat} {spare : Nat → Bool} {held : Bool}
theorem addPlain (b off i : Nat) : (⟨b, off, none⟩ : Addr).add i = ⟨b, off + i, none⟩ := by
  unfold Addr.add
  by_cases h : i = 0 <;> simp [h]
/-- A field that is a slice of texts. -/
theorem strs_trod {t e : TypeId} {fuel : Nat} {v : Value} {y : DataW H × List MemPlace} (ht : P.underlying t = some (.slice e)) (he : P.underlying e = some .string) (hc : P.cellsOf e = 1)
    (h : DataW.trod enc P w base spare held fuel t [v] = some y) : ∃ ss, StrsAt w v ss ∧ szS ss ≤ Rows.uptoBulk y.1 := by
  rcases open_strings ht he hc h with ⟨hcs, _⟩ | ⟨a, len, cap, ss, hcs, _, hl, hm, hz, hy, hcell, hws⟩
  · obtain rfl : v = .slice none 0 0 := by simpa using hcs
    exact ⟨[], ⟨fun s h => (by simp at h), by simp, .inl ⟨none, 0, rfl, rfl⟩⟩, Nat.zero_le _⟩
  · obtain rfl : v = .slice (some a) len cap := by simpa using hcs
    have hle : len ≤ ss.length := by rw [hz]; split <;> omega
    have hlen : (ss.take len).length = len := by rw [List.length_take]; omega
    refine ⟨ss.take len, ⟨fun s h => hws s (List.mem_of_mem_take h), by omega, ?_⟩, by rw [hy]; show szS _ ≤ Rows.uptoBulkAll (strs (ss.take len)) + Rows.uptoBulkAll (strs (ss.drop len)) + 1; rw [bulk_strs]; omega⟩
    by_cases hl0 : len = 0
    · exact .inl ⟨some a, cap, by rw [hl0], by rw [hl0]; rfl⟩
    · obtain ⟨b, off, spot⟩ := a
      have hspot : spot = none := by simpa [Addr.add] using World.cell?_spot (hcell 0 (by omega))
      subst hspot
      have h0 := hcell 0 (by omega)
      refine .inr ⟨b, off, cap, by rw [hlen], ?_, fun j hj => ?_⟩
      · rw [addPlain] at h0
        exact World.block_lt_of_cell? w _ h0
      · rw [hlen] at hj
        have h1 := hcell j (by omega)
        rw [← addPlain, h1]
        congr 2
        rw [stAt_get (by omega), List.getElem_take, List.getD_eq_getElem?_getD, List.getElem?_eq_getElem (by omega)]
        rfl
/-- The kinds of a type's five fields. -/
structure TyKinds (P : Program) (T : TypeId) : Prop where
  under : ∃ f0 f1 f2 f3 f4 : Field, P.underlying T = some (.struct #[f0, f1, f2, f3, f4]) ∧ oneCellFields P #[f0, f1, f2, f3, f4] = true ∧
    P.underlying f0.type = some (.int .i64) ∧ P.underlying f1.type = some (.int .i64) ∧ P.underlying f2.type = some .string ∧
    (∃ e, P.underlying f3.type = some (.slice e) ∧ P.underlying e = some .string ∧ P.cellsOf e = 1) ∧ P.underlying f4.type = some (.slice T)
  cells : P.cellsOf T = 5
theorem int_trod {t : TypeId} {fuel : Nat} {v : Value} {y : DataW H × List MemPlace} (ht : P.underlying t = some (.int .i64)) (h : DataW.trod enc P w base spare held fuel t [v] = some y) : ∃ n, v = .int .i64 n := by
  obtain ⟨n, h1, _⟩ := DataW.trod_int ht h
  exact ⟨n, by simpa using h1⟩
theorem str_trod {t : TypeId} {fuel : Nat} {v : Value} {y : DataW H × List MemPlace} (ht : P.underlying t = some .string) (h : DataW.trod enc P w base spare held fuel t [v] = some y) : ∃ s, v = .string s ∧ s.size ≤ maxLen ∧ s.size ≤ Rows.uptoBulk y.1 := by
  obtain ⟨s, h1, h2, h3⟩ := DataW.trod_string ht h
  refine ⟨s, by simpa using h1, h3, ?_⟩
  rw [h2]
  show s.size ≤ s.data.toList.length + 1
  have : s.data.toList.length = s.size := rfl
  omega
theorem row_of : ∀ (E : List (DataW H)) (b off : Nat), (∀ i (hi : i < E.length), ∃ t v0 v1 v2 v3 v4, w.cell? ⟨b, off + i * 5, none⟩ = some v0 ∧ w.cell? ⟨b, off + i * 5 + 1, none⟩ = some v1 ∧ w.cell? ⟨b, off + i * 5 + 2, none⟩ = some v2 ∧ w.cell? ⟨b, off + i * 5 + 3, none⟩ = some v3 ∧ w.cell? ⟨b, off + i * 5 + 4, none⟩ = some v4 ∧ TyIn w t v0 v1 v2 v3 v4 ∧ szT t ≤ Rows.uptoBulk E[i]) →
    ∃ ks : List Ty5, ks.length = E.length ∧ RowIn w b off ks ∧ szL ks ≤ Rows.uptoBulkAll E
  | [], _, _, _ => ⟨[], rfl, trivial, Nat.le_refl _⟩
  | d :: E, b, off, h => by
    obtain ⟨t, v0, v1, v2, v3, v4, h0, h1, h2, h3, h4, h5, h6⟩ := h 0 (by simp)
    obtain ⟨ks, hl, hr, hz⟩ := row_of E b (off + 5) (fun i hi => by
      have := h (i + 1) (by simpa using hi)
      rw [show off + (i + 1) * 5 = off + 5 + i * 5 by omega] at this
      exact this)
    refine ⟨t :: ks, by simp [hl], ⟨⟨v0, v1, v2, v3, v4, by simpa using h0, by simpa using h1, by simpa using h2, by simpa using h3, by simpa using h4, h5⟩, hr⟩, ?_⟩
    show szT t + szL ks ≤ Rows.uptoBulk d + Rows.uptoBulkAll E
    have : szT t ≤ Rows.uptoBulk d := h6
    omega
theorem ty_trod {T : TypeId} (K : TyKinds P T) : ∀ (fuel : Nat) (cs : List Value) (x : DataW H × List MemPlace), DataW.trod enc P w base spare held fuel T cs = some x →
    ∃ v0 v1 v2 v3 v4 t, cs = [v0, v1, v2, v3, v4] ∧ TyIn w t v0 v1 v2 v3 v4 ∧ szT t ≤ Rows.uptoBulk x.1 := by
  intro fuel
  induction fuel using Nat.strongRecOn with
  | _ fuel ih =>
    intro cs x h
    obtain ⟨⟨f0, f1, f2, f3, f4, hT, hone, u0, u1, u2, ⟨e, u3, ue, ce⟩, u4⟩, hC⟩ := K
    obtain ⟨xs, n, hn, hx, hlen, hxl, hf⟩ := DataW.trod_struct hT h
    rw [hC] at hlen
    match cs, hlen with
    | [v0, v1, v2, v3, v4], _ =>
      match xs, hxl with
      | [y0, y1, y2, y3, y4], _ =>
        obtain ⟨o0, k0⟩ := hone_of hone 0 f0 rfl
        obtain ⟨o1, k1⟩ := hone_of hone 1 f1 rfl
        obtain ⟨o2, k2⟩ := hone_of hone 2 f2 rfl
        obtain ⟨o3, k3⟩ := hone_of hone 3 f3 rfl
        obtain ⟨o4, k4⟩ := hone_of hone 4 f4 rfl
        have g0 : DataW.trod enc P w base spare held n f0.type [v0] = some y0 := by simpa [o0, k0] using hf 0 f0 rfl
        have g1 : DataW.trod enc P w base spare held n f1.type [v1] = some y1 := by simpa [o1, k1] using hf 1 f1 rfl
        have g2 : DataW.trod enc P w base spare held n f2.type [v2] = some y2 := by simpa [o2, k2] using hf 2 f2 rfl
        have g3 : DataW.trod enc P w base spare held n f3.type [v3] = some y3 := by simpa [o3, k3] using hf 3 f3 rfl
        have g4 : DataW.trod enc P w base spare held n f4.type [v4] = some y4 := by simpa [o4, k4] using hf 4 f4 rfl
        obtain ⟨k, rfl⟩ := int_trod u0 g0
        obtain ⟨m, rfl⟩ := int_trod u1 g1
        obtain ⟨nm, rfl, hnm, hnz⟩ := str_trod u2 g2
        obtain ⟨ls, hls, hlz⟩ := strs_trod u3 ue ce g3
        have hrow : ∃ ks : List Ty5, ks.length ≤ maxLen ∧ ((∃ a cap, v4 = .slice a 0 cap ∧ ks = []) ∨ ∃ b off cap, v4 = .slice (some ⟨b, off, none⟩) ks.length cap ∧ RowIn w b off ks) ∧ szL ks ≤ Rows.uptoBulk y4.1 := by
          rcases DataW.trod_slice u4 g4 with ⟨hcs, _⟩ | ⟨a, len, cap, elems, rest, n', hn', hcs, hy4, hb, hl, hm, hel, hcell, _, _⟩
          · obtain rfl : v4 = .slice none 0 0 := by simpa using hcs
            exact ⟨[], by simp, .inl ⟨none, 0, rfl, rfl⟩, Nat.zero_le _⟩
          · obtain rfl : v4 = .slice (some a) len cap := by simpa using hcs
            by_cases hl0 : len = 0
            · subst hl0
              exact ⟨[], by simp, .inl ⟨some a, cap, rfl, rfl⟩, Nat.zero_le _⟩
            have each : ∀ i (hi : i < len), ∃ t v0 v1 v2 v3 v4, w.cell? (a.add (i * 5)) = some v0 ∧ w.cell? (a.add (i * 5 + 1)) = some v1 ∧ w.cell? (a.add (i * 5 + 2)) = some v2 ∧ w.cell? (a.add (i * 5 + 3)) = some v3 ∧ w.cell? (a.add (i * 5 + 4)) = some v4 ∧ TyIn w t v0 v1 v2 v3 v4 ∧ szT t ≤ Rows.uptoBulk (elems[i]'(by omega)).1 := fun i hi => by
              have hk := hcell i hi
              rw [List.getElem?_eq_getElem (by omega)] at hk
              obtain ⟨cs', hc1, hc2⟩ := Option.bind_eq_some_iff.1 hk
              rw [hC] at hc1
              obtain ⟨_, hcl, hat⟩ := World.cells?_some hc1
              obtain ⟨w0, w1, w2, w3, w4, t, rfl, ht, htz⟩ := ih n' (by omega) cs' _ hc2
              have q : ∀ j, j < 5 → w.cell? (a.add (i * 5 + j)) = [w0, w1, w2, w3, w4][j]? := fun j hj => by
                rw [← Go.Deep.add_add]
                exact hat j hj
              exact ⟨t, w0, w1, w2, w3, w4, q 0 (by omega), q 1 (by omega), q 2 (by omega), q 3 (by omega), q 4 (by omega), ht, htz⟩
            obtain ⟨b, off, spot⟩ := a
            have hspot : spot = none := by
              obtain ⟨_, z0, _, _, _, _, hz, _⟩ := each 0 (by omega)
              simpa [Addr.add] using World.cell?_spot hz
            subst hspot
            obtain ⟨ks, hkl, hkr, hkz⟩ := row_of (elems.map (·.1)) b off (fun i hi => by
              have hi' : i < len := by rw [← hel]; simpa using hi
              obtain ⟨t, z0, z1, z2, z3, z4, h0, h1, h2, h3, h4, h5, h6⟩ := each i hi'
              rw [addPlain] at h0 h1 h2 h3 h4
              exact ⟨t, z0, z1, z2, z3, z4, h0, by rw [← h1]; congr 1, by rw [← h2]; congr 1, by rw [← h3]; congr 1, by rw [← h4]; congr 1, h5, by rw [List.getElem_map]; exact h6⟩)
            rw [List.length_map, hel] at hkl
            refine ⟨ks, by omega, .inr ⟨b, off, cap, by rw [hkl], hkr⟩, ?_⟩
            rw [hy4]
            show _ ≤ Rows.uptoBulkAll (elems.map (·.1)) + Rows.uptoBulkAll (rest.map (·.1)) + 1
            omega
        obtain ⟨ks, hkl, hks, hkz⟩ := hrow
        refine ⟨_, _, _, _, _, .mk k m nm ls ks, rfl, ⟨rfl, rfl, ⟨rfl, hnm⟩, hls, hkl, hks⟩, ?_⟩
        rw [hx]
        show 1 + nm.size + szS ls + szL ks ≤ Rows.uptoBulkAll [y0.1, y1.1, y2.1, y3.1, y4.1] + 1
        simp only [Rows.uptoBulkAll]
        omega
/-- A parameter that is a type, by value. -/
theorem ty_param {T : TypeId} (K : TyKinds P T) {r : Reach} {b0 : Nat} {v : Value} {d : DataW H} {p : List MemPlace} (hv : Value.okWide P w r b0 T v) (h : DataW.Trod enc P w base spare held T v d p) :
    ∃ v0 v1 v2 v3 v4 t, v = .agg #[v0, v1, v2, v3, v4] ∧ TyIn w t v0 v1 v2 v3 v4 ∧ szT t ≤ Rows.uptoBulk d := by
  obtain ⟨f0, f1, f2, f3, f4, hT, hone, _⟩ := K.under
  obtain ⟨cs, rfl, hsz⟩ := okWide_struct hT hv
  obtain ⟨fuel, hf⟩ := h
  obtain ⟨v0, v1, v2, v3, v4, t, hcs, ht, htz⟩ := ty_trod K fuel _ _ hf
  obtain ⟨l⟩ := cs
  have : l = [v0, v1, v2, v3, v4] := by simpa [Value.cells] using hcs
  subst this
  exact ⟨v0, v1, v2, v3, v4, t, rfl, ht, htz⟩
/-- A parameter that is a slice of types. -/
theorem tys_param {T S : TypeId} (K : TyKinds P T) (hS : P.underlying S = some (.slice T)) {r : Reach} {b0 : Nat} {v : Value} {d : DataW H} {p : List MemPlace} (hv : Value.okWide P w r b0 S v) (h : DataW.Trod enc P w base spare held S v d p) :
    ∃ ks : List Ty5, ks.length ≤ maxLen ∧ ((∃ a cap, v = .slice a 0 cap ∧ ks = []) ∨ ∃ b off cap, v = .slice (some ⟨b, off, none⟩) ks.length cap ∧ ks.length ≤ cap ∧ cap ≤ maxLen ∧ RowIn w b off ks) ∧ szL ks ≤ Rows.uptoBulk d := by
  obtain ⟨a0, len0, cap0, rfl⟩ := okWide_slice hS hv
  obtain ⟨fuel, hf⟩ := h
  rcases DataW.trod_slice hS hf with ⟨hcs, _⟩ | ⟨a, len, cap, elems, rest, n', hn', hcs, hy4, hb, hl, hm, hel, hcell, _, _⟩
  · have hx : Value.slice a0 len0 cap0 = .slice none 0 0 := by simpa [Value.cells] using hcs
    exact ⟨[], by simp, .inl ⟨none, 0, hx, rfl⟩, Nat.zero_le _⟩
  · have hx : Value.slice a0 len0 cap0 = .slice (some a) len cap := by simpa [Value.cells] using hcs
    rw [hx]
    by_cases hl0 : len = 0
    · subst hl0
      exact ⟨[], by simp, .inl ⟨some a, cap, rfl, rfl⟩, Nat.zero_le _⟩
    have each : ∀ i (hi : i < len), ∃ t v0 v1 v2 v3 v4, w.cell? (a.add (i * 5)) = some v0 ∧ w.cell? (a.add (i * 5 + 1)) = some v1 ∧ w.cell? (a.add (i * 5 + 2)) = some v2 ∧ w.cell? (a.add (i * 5 + 3)) = some v3 ∧ w.cell? (a.add (i * 5 + 4)) = some v4 ∧ TyIn w t v0 v1 v2 v3 v4 ∧ szT t ≤ Rows.uptoBulk (elems[i]'(by omega)).1 := fun i hi => by
      have hk := hcell i hi
      rw [List.getElem?_eq_getElem (by omega)] at hk
      obtain ⟨cs', hc1, hc2⟩ := Option.bind_eq_some_iff.1 hk
      rw [K.cells] at hc1
      obtain ⟨_, hcl, hat⟩ := World.cells?_some hc1
      obtain ⟨w0, w1, w2, w3, w4, t, rfl, ht, htz⟩ := ty_trod K n' cs' _ hc2
      have q : ∀ j, j < 5 → w.cell? (a.add (i * 5 + j)) = [w0, w1, w2, w3, w4][j]? := fun j hj => by
        rw [← Go.Deep.add_add]
        exact hat j hj
      exact ⟨t, w0, w1, w2, w3, w4, q 0 (by omega), q 1 (by omega), q 2 (by omega), q 3 (by omega), q 4 (by omega), ht, htz⟩
    obtain ⟨b, off, spot⟩ := a
    have hspot : spot = none := by
      obtain ⟨_, z0, _, _, _, _, hz, _⟩ := each 0 (by omega)
      simpa [Addr.add] using World.cell?_spot hz
    subst hspot
    obtain ⟨ks, hkl, hkr, hkz⟩ := row_of (elems.map (·.1)) b off (fun i hi => by
      have hi' : i < len := by rw [← hel]; simpa using hi
      obtain ⟨t, z0, z1, z2, z3, z4, h0, h1, h2, h3, h4, h5, h6⟩ := each i hi'
      rw [addPlain] at h0 h1 h2 h3 h4
      exact ⟨t, z0, z1, z2, z3, z4, h0, by rw [← h1]; congr 1, by rw [← h2]; congr 1, by rw [← h3]; congr 1, by rw [← h4]; congr 1, h5, by rw [List.getElem_map]; exact h6⟩)
    rw [List.length_map, hel] at hkl
    refine ⟨ks, by omega, .inr ⟨b, off, cap, by rw [hkl], by omega, by omega, hkr⟩, ?_⟩
    have hd : d = .slice (elems.map (·.1)) (rest.map (·.1)) := congrArg Prod.fst hy4
    rw [hd]
    show _ ≤ Rows.uptoBulkAll (elems.map (·.1)) + Rows.uptoBulkAll (rest.map (·.1)) + 1
    omega
end
end Go.Proofs.Ytbfmaicoefefaaa
