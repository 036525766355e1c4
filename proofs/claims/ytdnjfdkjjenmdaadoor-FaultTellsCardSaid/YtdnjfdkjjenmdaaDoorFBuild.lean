/- limbecklaw02.build: the walk. -/
import Derived.Test.YtdnjfdkjjenmdaaDoorFRef
namespace Go.Proofs.YtdnjfdkjjenmdaaDoor
open Go.RowKit
def wAt (ws : List (ByteArray × Bool)) (j : Nat) : ByteArray × Bool := ws.getD j (⟨#[]⟩, false)
/-- The law's wraps, as they came in. -/
def WrapsAt (w : World) (v : Value) (ws : List (ByteArray × Bool)) : Prop :=
  (∃ a cap, v = .slice a 0 cap ∧ ws = []) ∨ ∃ b off cap, v = .slice (some ⟨b, off, none⟩) ws.length cap ∧ 0 < ws.length ∧ ∀ j, j < ws.length → w.cell? ⟨b, off + j * 2, none⟩ = some (.string (wAt ws j).1) ∧ w.cell? ⟨b, off + j * 2 + 1, none⟩ = some (.bool (wAt ws j).2)
theorem WrapsAt.mono {w w' : World} {v : Value} {ws : List (ByteArray × Bool)} (h : WrapsAt w v ws) (hb : Below w.heap.size w w') : WrapsAt w' v ws := by
  rcases h with h | ⟨b, off, cap, h1, h2, h3⟩
  · exact .inl h
  · exact .inr ⟨b, off, cap, h1, h2, fun j hj => ⟨below_cellOf hb (h3 j hj).1, below_cellOf hb (h3 j hj).2⟩⟩

theorem info_str : (Tryd.prog.info? 9).map (fun i => (i.zero, i.size, i.bytes)) = some (some (.string ⟨#[]⟩), 1, 16) := by kernel_rfl
theorem info_parts {j : Option TypeInfo} {z : Option Value} {s b : Nat} (h : j.map (fun i => (i.zero, i.size, i.bytes)) = some (z, s, b)) : ∃ i, j = some i ∧ i.zero = z ∧ i.size = s ∧ i.bytes = b := by
  obtain ⟨i, hi, h2⟩ := Option.map_eq_some_iff.1 h
  simp at h2
  exact ⟨i, hi, h2.1, h2.2.1, h2.2.2⟩

/-- What has been wrapped so far is what it was at the start, but for its names. -/
def Same (e0 e : Er) (ns : List ByteArray) : Prop :=
  e.isNil = e0.isNil ∧ (e0.isNil = false → e.plc = e0.plc ∧ (∀ q, e.isIn q = e0.isIn q) ∧ ∀ x, e.defFrom x = (ns.getLast?).getD x)
theorem Same.str {e0 e : Er} {ns : List ByteArray} (h : Same e0 e ns) (b : Nat) (hn : e.isNil = false) : Same e0 (.str b e) ns :=
  ⟨by rw [← h.1, hn]; rfl, h.2⟩
theorem Same.nam {e0 e : Er} {ns : List ByteArray} (h : Same e0 e ns) (b : Nat) (d : ByteArray) (hn : e.isNil = false) : Same e0 (.nam b d e) (d :: ns) := by
  refine ⟨by rw [← h.1, hn]; rfl, fun h0 => ⟨(h.2 h0).1, (h.2 h0).2.1, fun x => ?_⟩⟩
  show e.defFrom d = _
  rw [(h.2 h0).2.2 d]
  cases ns with
  | nil => rfl
  | cons a l => simp [List.getLast?_cons]
theorem Same.nil {e0 e : Er} {ns : List ByteArray} (h : Same e0 e ns) (d : ByteArray) (hn : e.isNil = true) : Same e0 e (d :: ns) :=
  ⟨h.1, fun h0 => by rw [h.1, h0] at hn; cases hn⟩

theorem Er.val_nil : Er.nil.val = .nilIface := rfl
def start (c a : Int) (o : Bool) : Er := if o = true then .str 0 .nil else newE c a
theorem new_new (c a : Int) (w : World) : Calls Tryd.prog 17 #[.int .i64 c, .int .i64 a] w fun ev w' => ∃ e : Er, e = newE c a ∧ ev = .returned e.val ∧ w = w' :=
  (new_any c a w).mono fun _ _ h => ⟨_, rfl, h.1, h.2⟩
def Base (c a : Int) (o : Bool) (z : Nat) (w wL : World) : Prop :=
  Below z w wL ∧ (∀ j u, (#[Value.int .i64 c, .int .i64 a, .slice none 0 0, .bool o] : Array Value)[j]? = some u → wL.cell? ⟨z + 1, j, none⟩ = some u) ∧ (∀ j, wL.frozen? ⟨z + 1, j, none⟩ = false) ∧
  (∀ j u, (#[Value.int .i64 0, .int .i64 0, .slice none 0 0, .bool false] : Array Value)[j]? = some u → wL.cell? ⟨z, j, none⟩ = some u) ∧ (∀ j, wL.frozen? ⟨z, j, none⟩ = false)
theorem base_false (c a : Int) (w : World) : Base c a false w.heap.size w ((w.alloc (.cells #[.int .i64 0, .int .i64 0, .slice none 0 0, .bool false] 29)).alloc (.cells #[.int .i64 c, .int .i64 a, .slice none 0 0, .bool false] 29)) := by
  refine ⟨((Below.refl _ _).alloc (Nat.le_refl _) _).alloc (by simp) _, fun j u h => ?_, fun j => by simp [go_sem], fun j u h => ?_, fun j => ?_⟩
  · have := cell_alloc_newN (w.alloc (.cells #[.int .i64 0, .int .i64 0, .slice none 0 0, .bool false] 29)) _ 29 j u h
    simpa using this
  · rw [World.cell?_alloc_lt _ _ _ (by simp)]; exact cell_alloc_newN w _ _ j u h
  · rw [World.frozen?_alloc_old _ _ _ (by simp)]; simp [go_sem]
theorem base_true (c a : Int) (w : World) : Base c a true w.heap.size w (((w.alloc (.cells #[.int .i64 0, .int .i64 0, .slice none 0 0, .bool false] 29)).alloc (.cells #[.int .i64 c, .int .i64 a, .slice none 0 0, .bool true] 29)).alloc (.cells #[.nilIface] 47)) := by
  refine ⟨(((Below.refl _ _).alloc (Nat.le_refl _) _).alloc (by simp) _).alloc (by simp; omega) _, fun j u h => ?_, fun j => ?_, fun j u h => ?_, fun j => ?_⟩
  · rw [World.cell?_alloc_lt _ _ _ (by simp)]
    have := cell_alloc_newN (w.alloc (.cells #[.int .i64 0, .int .i64 0, .slice none 0 0, .bool false] 29)) _ 29 j u h
    simpa using this
  · rw [World.frozen?_alloc_old _ _ _ (by simp)]; simp [go_sem]
  · rw [World.cell?_alloc_lt _ _ _ (by simp; omega), World.cell?_alloc_lt _ _ _ (by simp)]; exact cell_alloc_newN w _ _ j u h
  · rw [World.frozen?_alloc_old _ _ _ (by simp; omega), World.frozen?_alloc_old _ _ _ (by simp)]; simp [go_sem]
theorem stranger_cell (w : World) (o1 o2 : Obj) : (((w.alloc o1).alloc o2).alloc (.cells #[.nilIface] 47)).cell? ⟨w.heap.size + 1 + 1, 0, none⟩ = some .nilIface := by
  have := cell_alloc_newN ((w.alloc o1).alloc o2) #[.nilIface] 47 0 _ rfl
  simpa using this
theorem at_store {w : World} {B o : Nat} {u : Value} {k : Int} (hk : w.cell? ⟨B, 0, none⟩ = some (.int .i64 k)) : ∀ {e : Er}, e.At w → e.At (w.setCell ⟨B, o, none⟩ u)
  | .nil, _ => trivial
  | .num _, _ => trivial
  | .placed _ _, _ => trivial
  | .str b i, h => by
    have hne : B ≠ b := fun e => by
      subst e
      have := hk.symm.trans h.1
      cases i <;> simp [Er.val] at this
    exact ⟨by rw [World.cell?_setCell_other _ _ _ _ (by simp [hne])]; exact h.1, at_store hk h.2⟩
  | .nam b d i, h => by
    have hne : B ≠ b := fun e => by
      subst e
      have := hk.symm.trans h.1
      simp at this
    exact ⟨by rw [World.cell?_setCell_other _ _ _ _ (by simp [hne])]; exact h.1, by rw [World.cell?_setCell_other _ _ _ _ (by simp [hne])]; exact h.2.1, at_store hk h.2.2⟩
theorem names_store {w : World} {B o : Nat} {u v : Value} {k : Int} {ns : List ByteArray} (hk : w.cell? ⟨B, 0, none⟩ = some (.int .i64 k)) (h : NamesAt w v ns) : NamesAt (w.setCell ⟨B, o, none⟩ u) v ns := by
  rcases h with h | ⟨g, cap, h1, h2, h3⟩
  · exact .inl h
  · refine .inr ⟨g, cap, h1, h2, fun j u hj => ?_⟩
    have hne : B ≠ g := fun e => by
      subst e
      have h0 := h3 0 _ (by rw [List.getElem?_map, List.getElem?_eq_getElem h2]; rfl)
      have := hk.symm.trans (show w.cell? ⟨B, 0, none⟩ = _ by simpa [Addr.add] using h0)
      simp at this
    rw [World.cell?_setCell_other _ _ _ _ (fun e => hne (by have := congrArg Addr.block e; by_cases hj0 : j = 0 <;> simpa [Addr.add, hj0] using this))]
    exact h3 j u hj
theorem names_of_own {w : World} {base cap n : Nat} {g : Nat} {ns : List ByteArray} (h : w.ownsRow base 9 1 (.slice (some ⟨g, 0, none⟩) n cap) n (ns.map Value.string)) (hn : n = ns.length) (h0 : 0 < ns.length) : NamesAt w (.slice (some ⟨g, 0, none⟩) n cap) ns := by
  subst hn
  exact .inr ⟨g, cap, rfl, h0, h.cells rfl⟩
theorem own_shape {w : World} {base n : Nat} {v : Value} {xs : List Value} (h : w.ownsRow base 9 1 v n xs) (h0 : 0 < n) : ∃ g cap, v = .slice (some ⟨g, 0, none⟩) n cap := by
  rcases h.2 with ⟨_, h1⟩ | ⟨g, cap, cur, hv, _⟩
  · omega
  · exact ⟨g, cap, hv⟩
theorem own_one (w : World) (d : ByteArray) : (w.alloc (.cells #[.string d] 9)).ownsRow w.heap.size 9 1 (.slice (some ⟨w.heap.size, 0, none⟩) 1 1) 1 [.string d] :=
  World.ownsRow_lit (base := w.heap.size) (e := 9) (size := 1) w #[.string d] 1 (Nat.le_refl _) (by simp [maxLen]) rfl
theorem oneCell_strs (l : List ByteArray) : ∀ u ∈ l.map Value.string, u.oneCell' = true := by
  intro u hu
  obtain ⟨s, _, rfl⟩ := List.mem_map.1 hu
  rfl
def Rel (c a : Int) (o : Bool) (n : Nat) (wL : World) (gk : Nat) (p10 p12 p13 : Value) (wr : World) : Prop :=
  ∃ (e : Er) (ns : List ByteArray) (k : Nat), p10 = e.val ∧ p13 = .int .i64 k ∧ k + gk = n ∧ e.At wr ∧ NamesAt wr p12 ns ∧ ns.length ≤ k ∧ Same (start c a o) e ns ∧ Below wL.heap.size wL wr
set_option maxRecDepth 8000 in
set_option maxHeartbeats 2000000 in
theorem build_any (c a : Int) (o : Bool) (v : Value) (ws : List (ByteArray × Bool)) (w : World) (h : WrapsAt w v ws) (hl : ws.length ≤ 40) :
    Calls Tryd.prog 7 #[.int .i64 c, .int .i64 a, .bool o, v] w fun ev w' => ∃ e ns vn, ev = .returned (.tuple #[e.val, .agg #[.int .i64 c, .int .i64 a, vn, .bool o]]) ∧ e.At w' ∧ NamesAt w' vn ns ∧ ns.length ≤ 40 ∧ Same (start c a o) e ns ∧ Below w.heap.size w w' := by
  obtain ⟨a0, cap, n, rfl, hn, HC⟩ : ∃ a0 cap n, v = .slice a0 n cap ∧ n ≤ 40 ∧ ∀ j, j < n → ∃ b off, a0 = some ⟨b, off, none⟩ ∧ w.cell? ⟨b, off + j * 2, none⟩ = some (.string (wAt ws j).1) ∧ w.cell? ⟨b, off + j * 2 + 1, none⟩ = some (.bool (wAt ws j).2) := by
    rcases h with ⟨a0, cap, h1, h2⟩ | ⟨b, off, cap, h1, h2, h3⟩
    · exact ⟨a0, cap, 0, h1, by omega, fun j hj => by omega⟩
    · exact ⟨_, cap, _, h1, hl, fun j hj => ⟨b, off, rfl, h3 j hj⟩⟩
  clear h hl
  have H : Aside (∀ j, j < n → ∃ b off, a0 = some ⟨b, off, none⟩ ∧ w.cell? ⟨b, off + j * 2, none⟩ = some (.string (wAt ws j).1) ∧ w.cell? ⟨b, off + j * 2 + 1, none⟩ = some (.bool (wAt ws j).2)) := HC
  clear HC
  have hstart : ∃ e0 : Er, e0 = newE c a := ⟨_, rfl⟩
  obtain ⟨e0, he0⟩ := hstart
  have HE : Aside (e0 = newE c a) := he0
  clear he0
  rcases Bool.eq_false_or_eq_true o with rfl | rfl
  · go_enter Tryd.func7, Tryd.ntmps7
    go_wp2_with fail
    refine (new_any c a _).mono ?_; rintro ev w1 ⟨rfl, rfl⟩
    go_wp2_with fail
    have BF : Aside (Base c a true w.heap.size w _) := base_true c a w
    have SC : Aside (_ = _) := stranger_cell w (.cells #[.int .i64 0, .int .i64 0, .slice none 0 0, .bool false] 29) (.cells #[.int .i64 c, .int .i64 a, .slice none 0 0, .bool true] 29)
    generalize (((w.alloc (.cells #[.int .i64 0, .int .i64 0, .slice none 0 0, .bool false] 29)).alloc (.cells #[.int .i64 c, .int .i64 a, .slice none 0 0, .bool true] 29)).alloc (.cells #[.nilIface] 47)) = wL at BF SC ⊢
    go_loopg [10, 12, 13] n (fun k p10 p12 p13 wr => Rel c a true n wL k p10 p12 p13 wr)
    case atStart => exact ⟨.str (w.heap.size + 1 + 1) .nil, [], 0, rfl, rfl, by omega, ⟨SC.out, trivial⟩, .inl ⟨rfl, rfl⟩, Nat.le_refl _, ⟨rfl, fun _ => ⟨rfl, fun _ => rfl, fun _ => rfl⟩⟩, Below.refl _ _⟩
    case round =>
      obtain ⟨e, ns, k, rfl, rfl, hgk, he, hN, hlen, hS, hb⟩ := hrel
      have hN2 : ∃ sa sn sc, u12 = .slice sa sn sc := by
        rcases hN with ⟨h, _⟩ | ⟨g, cp, h, _⟩
        · exact ⟨_, _, _, h⟩
        · exact ⟨_, _, _, h⟩
      obtain ⟨sa, sn, sc, rfl⟩ := hN2
      have A : Aside (k + gk = n ∧ e.At wr ∧ NamesAt wr (.slice sa sn sc) ns ∧ ns.length ≤ k ∧ Same (start c a true) e ns ∧ Below wL.heap.size wL wr ∧ n ≤ 40) := ⟨hgk, he, hN, hlen, hS, hb, hn⟩
      have hbw : Aside (Below w.heap.size w wr) := BF.out.1.trans (hb.mono BF.out.1.size)
      clear hgk he hN hlen hS hb
      by_cases hlt : k < n
      · obtain ⟨b, off, rfl, h1, h2⟩ := H.out k hlt
        have h1 := below_cellOf hbw.out h1
        have h2 := below_cellOf hbw.out h2
        generalize (wAt ws k).1 = d at h1
        generalize (wAt ws k).2 = bb at h2
        rcases Bool.eq_false_or_eq_true bb with rfl | rfl
        · rcases Bool.eq_false_or_eq_true e.isNil with hnil | hnil
          · have A2 : Aside (e.isNil = true) := hnil
            cases e <;> simp [Er.isNil] at hnil
            rw [Er.val_nil]
            go_wp2
            go_roundg (gk - 1)
            case measure => have := A.out.1; omega
            case rel => exact ⟨.nil, ns, k + 1, rfl, by go_num, by have := A.out.1; omega, trivial, A.out.2.2.1, Nat.le_succ_of_le A.out.2.2.2.1, A.out.2.2.2.2.1, A.out.2.2.2.2.2.1⟩
          · have eg := egNil e hnil; have en := neNilVal e hnil
            obtain ⟨et, ev, hev⟩ := e.val_iface hnil
            rw [hev] at eg en ⊢
            have A2 : Aside (e.isNil = false ∧ e.val = .iface et ev) := ⟨hnil, hev⟩
            clear hnil hev
            go_wp2
            have hB : Below wr.heap.size wr (wr.alloc (.cells #[.iface et ev] 47)) := (Below.refl _ _).alloc (Nat.le_refl _) _
            go_roundg (gk - 1)
            case measure => have := A.out.1; omega
            case rel => exact ⟨.str wr.heap.size e, ns, k + 1, rfl, by go_num, by have := A.out.1; omega, ⟨by rw [A2.out.2]; exact cell_alloc_newN _ _ _ 0 _ rfl, A.out.2.1.mono hB⟩, A.out.2.2.1.mono hB, Nat.le_succ_of_le A.out.2.2.2.1, A.out.2.2.2.2.1.str _ A2.out.1, A.out.2.2.2.2.2.1.trans (hB.mono A.out.2.2.2.2.2.1.size)⟩
        · have hin : Calls Tryd.prog 16 #[.string d, e.val] wr fun ev w' => Below wr.heap.size wr w' ∧ ∃ e' : Er, ev = .returned e'.val ∧ e'.At w' ∧ Same (start c a true) e' (d :: ns) := by
            refine (in_any d e wr A.out.2.1).mono ?_
            rintro ev w' ⟨hb, hh⟩
            refine ⟨hb, ?_⟩
            rcases Bool.eq_false_or_eq_true e.isNil with hnil | hnil
            · rw [if_pos hnil] at hh
              exact ⟨e, by rw [hh]; cases e <;> simp [Er.isNil] at hnil; rfl, A.out.2.1.mono hb, A.out.2.2.2.2.1.nil d hnil⟩
            · rw [if_neg (by simp [hnil])] at hh
              exact ⟨_, hh.1, hh.2, A.out.2.2.2.2.1.nam _ d hnil⟩
          go_wp2_with fail
          refine hin.mono ?_
          clear hin
          rintro ev w2 ⟨hb2, e2, rfl, he2, hS2⟩
          have h1 := below_cellOf hb2 h1
          have A2 : Aside (Below wr.heap.size wr w2 ∧ e2.At w2 ∧ Same (start c a true) e2 (d :: ns)) := ⟨hb2, he2, hS2⟩
          clear hb2 he2 hS2
          obtain ⟨i0, hi, hz0, hz1, hz2⟩ := info_parts info_str
          have own := own_one w2 d
          have A3 : Aside ((w2.alloc (.cells #[.string d] 9)).ownsRow w2.heap.size 9 1 (.slice (some ⟨w2.heap.size, 0, none⟩) 1 1) 1 [.string d] ∧ Tryd.prog.info? 9 = some i0 ∧ i0.zero = some (.string ⟨#[]⟩) ∧ i0.size = 1 ∧ i0.bytes = 16 ∧ Below w2.heap.size w2 (w2.alloc (.cells #[.string d] 9))) := ⟨own, hi, hz0, hz1, hz2, (Below.refl _ _).alloc (Nat.le_refl _) _⟩
          clear own hi hz0 hz1 hz2
          rcases A.out.2.2.1 with ⟨hv0, hns⟩ | ⟨g, cp, hv0, hns, hcl⟩
          · obtain ⟨rfl, rfl, rfl⟩ : sa = none ∧ sn = 0 ∧ sc = 0 := by simpa using hv0
            have A4 : Aside (ns = []) := hns
            clear hns hv0
            go_wp2_with (refine wpList_append_own_none rfl (.tmp 54) (.tmp 55) 27 rfl w2.heap.size 9 i0 1 Tryd.underlying27 A3.out.2.1 (.slice (some ⟨w2.heap.size, 0, none⟩) 1 1) 1 [.string d] rfl A3.out.1 rfl ?_)
            go_roundg (gk - 1)
            case measure => have := A.out.1; omega
            case rel => exact ⟨e2, d :: ns, k + 1, rfl, by go_num, by have := A.out.1; omega, A2.out.2.1.mono A3.out.2.2.2.2.2, by rw [A4.out]; exact names_of_own (ns := [d]) A3.out.1 rfl (by simp), by rw [A4.out]; simp, A2.out.2.2, A.out.2.2.2.2.2.1.trans ((A2.out.1.trans (A3.out.2.2.2.2.2.mono A2.out.1.size)).mono A.out.2.2.2.2.2.1.size)⟩
          · obtain ⟨rfl, rfl, rfl⟩ : sa = some ⟨g, 0, none⟩ ∧ sn = ns.length ∧ sc = cp := by simpa using hv0
            have A4 : Aside ((∀ j u, (ns.map Value.string)[j]? = some u → (w2.alloc (.cells #[.string d] 9)).cell? ((⟨g, 0, none⟩ : Addr).add j) = some u) ∧ 1 + ns.length ≤ maxLen ∧ (1 + ns.length) * 16 ≤ 140737488355328) := ⟨fun j u hj => below_cellOf A3.out.2.2.2.2.2 (below_cellOf A2.out.1 (hcl j u hj)), by have := A.out.2.2.2.1; have := A.out.1; have := A.out.2.2.2.2.2.2; simp only [maxLen]; omega, by have := A.out.2.2.2.1; have := A.out.1; have := A.out.2.2.2.2.2.2; omega⟩
            clear hcl hns hv0
            go_wp2_with (refine wpList_append_own _ rfl (.tmp 54) (.tmp 55) 27 rfl w2.heap.size 9 i0 _ 1 16 Tryd.underlying27 A3.out.2.1 A3.out.2.2.1 A3.out.2.2.2.1 A3.out.2.2.2.2.1 rfl (by decide) (.slice (some ⟨w2.heap.size, 0, none⟩) 1 1) 1 [.string d] rfl A3.out.1 ⟨g, 0, none⟩ ns.length sc (ns.map Value.string) rfl (by simp) A4.out.1 (oneCell_strs ns) A4.out.2.1 A4.out.2.2 A3.out.2.2.2.2.2.size ?_; intro v3 w3 hown3 hgr3 _)
            have hb3 : Below w2.heap.size w2 w3 := A3.out.2.2.2.2.2.grown hgr3 A3.out.2.2.2.2.2.size (fun q hq => by simp [Value.ownBlock] at hq; omega)
            obtain ⟨g3, c3, rfl⟩ := own_shape hown3 (by omega)
            go_roundg (gk - 1)
            case measure => have := A.out.1; omega
            case rel => exact ⟨e2, d :: ns, k + 1, rfl, by go_num, by have := A.out.1; omega, A2.out.2.1.mono hb3, names_of_own (ns := d :: ns) hown3 (by simp; omega) (by simp), by have := A.out.2.2.2.1; simp; omega, A2.out.2.2, A.out.2.2.2.2.2.1.trans ((A2.out.1.trans (hb3.mono A2.out.1.size)).mono A.out.2.2.2.2.2.1.size)⟩
      · have hbl := A.out.2.2.2.2.2.1
        have k0 := below_cellOf hbl (BF.out.2.1 0 _ rfl)
        have k1 := below_cellOf hbl (BF.out.2.1 1 _ rfl)
        have k2 := below_cellOf hbl (BF.out.2.1 2 _ rfl)
        have k3 := below_cellOf hbl (BF.out.2.1 3 _ rfl)
        have z0 := below_cellOf hbl (BF.out.2.2.2.1 0 _ rfl)
        have z1 := below_cellOf hbl (BF.out.2.2.2.1 1 _ rfl)
        have z2 := below_cellOf hbl (BF.out.2.2.2.1 2 _ rfl)
        have z3 := below_cellOf hbl (BF.out.2.2.2.1 3 _ rfl)
        have hlz : w.heap.size < wL.heap.size := World.block_lt_of_cell? wL _ (BF.out.2.2.2.1 0 _ rfl)
        have hlz1 : w.heap.size + 1 < wL.heap.size := World.block_lt_of_cell? wL _ (BF.out.2.1 0 _ rfl)
        have f2 : wr.frozen? ⟨w.heap.size + 1, 2, none⟩ = false := (hbl.frozen hlz1).trans (BF.out.2.2.1 2)
        have g0 : wr.frozen? ⟨w.heap.size, 0, none⟩ = false := (hbl.frozen hlz).trans (BF.out.2.2.2.2 0)
        have g1 : wr.frozen? ⟨w.heap.size, 1, none⟩ = false := (hbl.frozen hlz).trans (BF.out.2.2.2.2 1)
        have g2 : wr.frozen? ⟨w.heap.size, 2, none⟩ = false := (hbl.frozen hlz).trans (BF.out.2.2.2.2 2)
        have g3 : wr.frozen? ⟨w.heap.size, 3, none⟩ = false := (hbl.frozen hlz).trans (BF.out.2.2.2.2 3)
        clear hbl hlz hlz1
        go_wp2_with (go_region)
        have E1 : (wr.setCell ⟨w.heap.size + 1, 2, none⟩ (.slice sa sn sc)).cell? ⟨w.heap.size, 0, none⟩ = some (.int .i64 0) := by rw [World.cell?_setCell_other _ _ _ _ (by simp)]; exact z0
        have T1 := at_store (o := 2) (u := .slice sa sn sc) k0 A.out.2.1
        have N1 := names_store (o := 2) (u := .slice sa sn sc) k0 A.out.2.2.1
        have T2 := at_store (o := 0) (u := .int .i64 c) E1 T1
        have N2 := names_store (o := 0) (u := .int .i64 c) E1 N1
        have E2 := World.cell?_setCell_same _ _ (.int .i64 c) E1
        have T3 := at_store (o := 1) (u := .int .i64 a) E2 T2
        have N3 := names_store (o := 1) (u := .int .i64 a) E2 N2
        have E3 : ((((wr.setCell ⟨w.heap.size + 1, 2, none⟩ (.slice sa sn sc)).setCell ⟨w.heap.size, 0, none⟩ (.int .i64 c)).setCell ⟨w.heap.size, 1, none⟩ (.int .i64 a))).cell? ⟨w.heap.size, 0, none⟩ = some (.int .i64 c) := by rw [World.cell?_setCell_other _ _ _ _ (by simp)]; exact E2
        have T4 := at_store (o := 2) (u := .slice sa sn sc) E3 T3
        have N4 := names_store (o := 2) (u := .slice sa sn sc) E3 N3
        have E4 : (((((wr.setCell ⟨w.heap.size + 1, 2, none⟩ (.slice sa sn sc)).setCell ⟨w.heap.size, 0, none⟩ (.int .i64 c)).setCell ⟨w.heap.size, 1, none⟩ (.int .i64 a))).setCell ⟨w.heap.size, 2, none⟩ (.slice sa sn sc)).cell? ⟨w.heap.size, 0, none⟩ = some (.int .i64 c) := by rw [World.cell?_setCell_other _ _ _ _ (by simp)]; exact E3
        have T5 := at_store (o := 3) (u := .bool true) E4 T4
        have N5 := names_store (o := 3) (u := .bool true) E4 N4
        have B5 := (((((hbw.out.setCell (p := ⟨w.heap.size + 1, 2, none⟩) (by simp) (.slice sa sn sc)).setCell (p := ⟨w.heap.size, 0, none⟩) (Nat.le_refl _) (.int .i64 c)).setCell (p := ⟨w.heap.size, 1, none⟩) (Nat.le_refl _) (.int .i64 a)).setCell (p := ⟨w.heap.size, 2, none⟩) (Nat.le_refl _) (.slice sa sn sc)).setCell (p := ⟨w.heap.size, 3, none⟩) (Nat.le_refl _) (.bool true))
        refine bodyPost_ret (v := .tuple #[e.val, .agg #[.int .i64 c, .int .i64 a, .slice sa sn sc, .bool true]]) ?_ rfl ⟨e, ns, _, rfl, T5.mono (Below.refl _ _).drew, N5.mono (Below.refl _ _).drew, by have := A.out.2.2.2.1; have := A.out.2.2.2.2.2.2; have := A.out.1; omega, A.out.2.2.2.2.1, B5.drew⟩
        simp [results, Tryd.results7, go_sem, z0, z1, z2, z3]
  · go_enter Tryd.func7, Tryd.ntmps7
    go_wp2_with fail
    refine (new_any c a _).mono ?_; rintro ev w1 ⟨rfl, rfl⟩
    go_wp2_with fail
    have BF : Aside (Base c a false w.heap.size w _) := base_false c a w
    generalize ((w.alloc (.cells #[.int .i64 0, .int .i64 0, .slice none 0 0, .bool false] 29)).alloc (.cells #[.int .i64 c, .int .i64 a, .slice none 0 0, .bool false] 29)) = wL at BF ⊢
    go_loopg [10, 12, 13] n (fun k p10 p12 p13 wr => Rel c a false n wL k p10 p12 p13 wr)
    case atStart => exact ⟨newE c a, [], 0, rfl, rfl, by omega, by unfold newE; split <;> trivial, .inl ⟨rfl, rfl⟩, Nat.le_refl _, ⟨rfl, fun h => ⟨rfl, fun _ => rfl, fun x => by
      show (newE c a).defFrom x = x
      unfold newE
      split <;> rfl⟩⟩, Below.refl _ _⟩
    case round =>
      obtain ⟨e, ns, k, rfl, rfl, hgk, he, hN, hlen, hS, hb⟩ := hrel
      have hN2 : ∃ sa sn sc, u12 = .slice sa sn sc := by
        rcases hN with ⟨h, _⟩ | ⟨g, cp, h, _⟩
        · exact ⟨_, _, _, h⟩
        · exact ⟨_, _, _, h⟩
      obtain ⟨sa, sn, sc, rfl⟩ := hN2
      have A : Aside (k + gk = n ∧ e.At wr ∧ NamesAt wr (.slice sa sn sc) ns ∧ ns.length ≤ k ∧ Same (start c a false) e ns ∧ Below wL.heap.size wL wr ∧ n ≤ 40) := ⟨hgk, he, hN, hlen, hS, hb, hn⟩
      have hbw : Aside (Below w.heap.size w wr) := BF.out.1.trans (hb.mono BF.out.1.size)
      clear hgk he hN hlen hS hb
      by_cases hlt : k < n
      · obtain ⟨b, off, rfl, h1, h2⟩ := H.out k hlt
        have h1 := below_cellOf hbw.out h1
        have h2 := below_cellOf hbw.out h2
        generalize (wAt ws k).1 = d at h1
        generalize (wAt ws k).2 = bb at h2
        rcases Bool.eq_false_or_eq_true bb with rfl | rfl
        · rcases Bool.eq_false_or_eq_true e.isNil with hnil | hnil
          · have A2 : Aside (e.isNil = true) := hnil
            cases e <;> simp [Er.isNil] at hnil
            rw [Er.val_nil]
            go_wp2
            go_roundg (gk - 1)
            case measure => have := A.out.1; omega
            case rel => exact ⟨.nil, ns, k + 1, rfl, by go_num, by have := A.out.1; omega, trivial, A.out.2.2.1, Nat.le_succ_of_le A.out.2.2.2.1, A.out.2.2.2.2.1, A.out.2.2.2.2.2.1⟩
          · have eg := egNil e hnil; have en := neNilVal e hnil
            obtain ⟨et, ev, hev⟩ := e.val_iface hnil
            rw [hev] at eg en ⊢
            have A2 : Aside (e.isNil = false ∧ e.val = .iface et ev) := ⟨hnil, hev⟩
            clear hnil hev
            go_wp2
            have hB : Below wr.heap.size wr (wr.alloc (.cells #[.iface et ev] 47)) := (Below.refl _ _).alloc (Nat.le_refl _) _
            go_roundg (gk - 1)
            case measure => have := A.out.1; omega
            case rel => exact ⟨.str wr.heap.size e, ns, k + 1, rfl, by go_num, by have := A.out.1; omega, ⟨by rw [A2.out.2]; exact cell_alloc_newN _ _ _ 0 _ rfl, A.out.2.1.mono hB⟩, A.out.2.2.1.mono hB, Nat.le_succ_of_le A.out.2.2.2.1, A.out.2.2.2.2.1.str _ A2.out.1, A.out.2.2.2.2.2.1.trans (hB.mono A.out.2.2.2.2.2.1.size)⟩
        · have hin : Calls Tryd.prog 16 #[.string d, e.val] wr fun ev w' => Below wr.heap.size wr w' ∧ ∃ e' : Er, ev = .returned e'.val ∧ e'.At w' ∧ Same (start c a false) e' (d :: ns) := by
            refine (in_any d e wr A.out.2.1).mono ?_
            rintro ev w' ⟨hb, hh⟩
            refine ⟨hb, ?_⟩
            rcases Bool.eq_false_or_eq_true e.isNil with hnil | hnil
            · rw [if_pos hnil] at hh
              exact ⟨e, by rw [hh]; cases e <;> simp [Er.isNil] at hnil; rfl, A.out.2.1.mono hb, A.out.2.2.2.2.1.nil d hnil⟩
            · rw [if_neg (by simp [hnil])] at hh
              exact ⟨_, hh.1, hh.2, A.out.2.2.2.2.1.nam _ d hnil⟩
          go_wp2_with fail
          refine hin.mono ?_
          clear hin
          rintro ev w2 ⟨hb2, e2, rfl, he2, hS2⟩
          have h1 := below_cellOf hb2 h1
          have A2 : Aside (Below wr.heap.size wr w2 ∧ e2.At w2 ∧ Same (start c a false) e2 (d :: ns)) := ⟨hb2, he2, hS2⟩
          clear hb2 he2 hS2
          obtain ⟨i0, hi, hz0, hz1, hz2⟩ := info_parts info_str
          have own := own_one w2 d
          have A3 : Aside ((w2.alloc (.cells #[.string d] 9)).ownsRow w2.heap.size 9 1 (.slice (some ⟨w2.heap.size, 0, none⟩) 1 1) 1 [.string d] ∧ Tryd.prog.info? 9 = some i0 ∧ i0.zero = some (.string ⟨#[]⟩) ∧ i0.size = 1 ∧ i0.bytes = 16 ∧ Below w2.heap.size w2 (w2.alloc (.cells #[.string d] 9))) := ⟨own, hi, hz0, hz1, hz2, (Below.refl _ _).alloc (Nat.le_refl _) _⟩
          clear own hi hz0 hz1 hz2
          rcases A.out.2.2.1 with ⟨hv0, hns⟩ | ⟨g, cp, hv0, hns, hcl⟩
          · obtain ⟨rfl, rfl, rfl⟩ : sa = none ∧ sn = 0 ∧ sc = 0 := by simpa using hv0
            have A4 : Aside (ns = []) := hns
            clear hns hv0
            go_wp2_with (refine wpList_append_own_none rfl (.tmp 54) (.tmp 55) 27 rfl w2.heap.size 9 i0 1 Tryd.underlying27 A3.out.2.1 (.slice (some ⟨w2.heap.size, 0, none⟩) 1 1) 1 [.string d] rfl A3.out.1 rfl ?_)
            go_roundg (gk - 1)
            case measure => have := A.out.1; omega
            case rel => exact ⟨e2, d :: ns, k + 1, rfl, by go_num, by have := A.out.1; omega, A2.out.2.1.mono A3.out.2.2.2.2.2, by rw [A4.out]; exact names_of_own (ns := [d]) A3.out.1 rfl (by simp), by rw [A4.out]; simp, A2.out.2.2, A.out.2.2.2.2.2.1.trans ((A2.out.1.trans (A3.out.2.2.2.2.2.mono A2.out.1.size)).mono A.out.2.2.2.2.2.1.size)⟩
          · obtain ⟨rfl, rfl, rfl⟩ : sa = some ⟨g, 0, none⟩ ∧ sn = ns.length ∧ sc = cp := by simpa using hv0
            have A4 : Aside ((∀ j u, (ns.map Value.string)[j]? = some u → (w2.alloc (.cells #[.string d] 9)).cell? ((⟨g, 0, none⟩ : Addr).add j) = some u) ∧ 1 + ns.length ≤ maxLen ∧ (1 + ns.length) * 16 ≤ 140737488355328) := ⟨fun j u hj => below_cellOf A3.out.2.2.2.2.2 (below_cellOf A2.out.1 (hcl j u hj)), by have := A.out.2.2.2.1; have := A.out.1; have := A.out.2.2.2.2.2.2; simp only [maxLen]; omega, by have := A.out.2.2.2.1; have := A.out.1; have := A.out.2.2.2.2.2.2; omega⟩
            clear hcl hns hv0
            go_wp2_with (refine wpList_append_own _ rfl (.tmp 54) (.tmp 55) 27 rfl w2.heap.size 9 i0 _ 1 16 Tryd.underlying27 A3.out.2.1 A3.out.2.2.1 A3.out.2.2.2.1 A3.out.2.2.2.2.1 rfl (by decide) (.slice (some ⟨w2.heap.size, 0, none⟩) 1 1) 1 [.string d] rfl A3.out.1 ⟨g, 0, none⟩ ns.length sc (ns.map Value.string) rfl (by simp) A4.out.1 (oneCell_strs ns) A4.out.2.1 A4.out.2.2 A3.out.2.2.2.2.2.size ?_; intro v3 w3 hown3 hgr3 _)
            have hb3 : Below w2.heap.size w2 w3 := A3.out.2.2.2.2.2.grown hgr3 A3.out.2.2.2.2.2.size (fun q hq => by simp [Value.ownBlock] at hq; omega)
            obtain ⟨g3, c3, rfl⟩ := own_shape hown3 (by omega)
            go_roundg (gk - 1)
            case measure => have := A.out.1; omega
            case rel => exact ⟨e2, d :: ns, k + 1, rfl, by go_num, by have := A.out.1; omega, A2.out.2.1.mono hb3, names_of_own (ns := d :: ns) hown3 (by simp; omega) (by simp), by have := A.out.2.2.2.1; simp; omega, A2.out.2.2, A.out.2.2.2.2.2.1.trans ((A2.out.1.trans (hb3.mono A2.out.1.size)).mono A.out.2.2.2.2.2.1.size)⟩
      · have hbl := A.out.2.2.2.2.2.1
        have k0 := below_cellOf hbl (BF.out.2.1 0 _ rfl)
        have k1 := below_cellOf hbl (BF.out.2.1 1 _ rfl)
        have k2 := below_cellOf hbl (BF.out.2.1 2 _ rfl)
        have k3 := below_cellOf hbl (BF.out.2.1 3 _ rfl)
        have z0 := below_cellOf hbl (BF.out.2.2.2.1 0 _ rfl)
        have z1 := below_cellOf hbl (BF.out.2.2.2.1 1 _ rfl)
        have z2 := below_cellOf hbl (BF.out.2.2.2.1 2 _ rfl)
        have z3 := below_cellOf hbl (BF.out.2.2.2.1 3 _ rfl)
        have hlz : w.heap.size < wL.heap.size := World.block_lt_of_cell? wL _ (BF.out.2.2.2.1 0 _ rfl)
        have hlz1 : w.heap.size + 1 < wL.heap.size := World.block_lt_of_cell? wL _ (BF.out.2.1 0 _ rfl)
        have f2 : wr.frozen? ⟨w.heap.size + 1, 2, none⟩ = false := (hbl.frozen hlz1).trans (BF.out.2.2.1 2)
        have g0 : wr.frozen? ⟨w.heap.size, 0, none⟩ = false := (hbl.frozen hlz).trans (BF.out.2.2.2.2 0)
        have g1 : wr.frozen? ⟨w.heap.size, 1, none⟩ = false := (hbl.frozen hlz).trans (BF.out.2.2.2.2 1)
        have g2 : wr.frozen? ⟨w.heap.size, 2, none⟩ = false := (hbl.frozen hlz).trans (BF.out.2.2.2.2 2)
        have g3 : wr.frozen? ⟨w.heap.size, 3, none⟩ = false := (hbl.frozen hlz).trans (BF.out.2.2.2.2 3)
        clear hbl hlz hlz1
        go_wp2_with (go_region)
        have E1 : (wr.setCell ⟨w.heap.size + 1, 2, none⟩ (.slice sa sn sc)).cell? ⟨w.heap.size, 0, none⟩ = some (.int .i64 0) := by rw [World.cell?_setCell_other _ _ _ _ (by simp)]; exact z0
        have T1 := at_store (o := 2) (u := .slice sa sn sc) k0 A.out.2.1
        have N1 := names_store (o := 2) (u := .slice sa sn sc) k0 A.out.2.2.1
        have T2 := at_store (o := 0) (u := .int .i64 c) E1 T1
        have N2 := names_store (o := 0) (u := .int .i64 c) E1 N1
        have E2 := World.cell?_setCell_same _ _ (.int .i64 c) E1
        have T3 := at_store (o := 1) (u := .int .i64 a) E2 T2
        have N3 := names_store (o := 1) (u := .int .i64 a) E2 N2
        have E3 : ((((wr.setCell ⟨w.heap.size + 1, 2, none⟩ (.slice sa sn sc)).setCell ⟨w.heap.size, 0, none⟩ (.int .i64 c)).setCell ⟨w.heap.size, 1, none⟩ (.int .i64 a))).cell? ⟨w.heap.size, 0, none⟩ = some (.int .i64 c) := by rw [World.cell?_setCell_other _ _ _ _ (by simp)]; exact E2
        have T4 := at_store (o := 2) (u := .slice sa sn sc) E3 T3
        have N4 := names_store (o := 2) (u := .slice sa sn sc) E3 N3
        have E4 : (((((wr.setCell ⟨w.heap.size + 1, 2, none⟩ (.slice sa sn sc)).setCell ⟨w.heap.size, 0, none⟩ (.int .i64 c)).setCell ⟨w.heap.size, 1, none⟩ (.int .i64 a))).setCell ⟨w.heap.size, 2, none⟩ (.slice sa sn sc)).cell? ⟨w.heap.size, 0, none⟩ = some (.int .i64 c) := by rw [World.cell?_setCell_other _ _ _ _ (by simp)]; exact E3
        have T5 := at_store (o := 3) (u := .bool false) E4 T4
        have N5 := names_store (o := 3) (u := .bool false) E4 N4
        have B5 := (((((hbw.out.setCell (p := ⟨w.heap.size + 1, 2, none⟩) (by simp) (.slice sa sn sc)).setCell (p := ⟨w.heap.size, 0, none⟩) (Nat.le_refl _) (.int .i64 c)).setCell (p := ⟨w.heap.size, 1, none⟩) (Nat.le_refl _) (.int .i64 a)).setCell (p := ⟨w.heap.size, 2, none⟩) (Nat.le_refl _) (.slice sa sn sc)).setCell (p := ⟨w.heap.size, 3, none⟩) (Nat.le_refl _) (.bool false))
        refine bodyPost_ret (v := .tuple #[e.val, .agg #[.int .i64 c, .int .i64 a, .slice sa sn sc, .bool false]]) ?_ rfl ⟨e, ns, _, rfl, T5.mono (Below.refl _ _).drew, N5.mono (Below.refl _ _).drew, by have := A.out.2.2.2.1; have := A.out.2.2.2.2.2.2; have := A.out.1; omega, A.out.2.2.2.2.1, B5.drew⟩
        simp [results, Tryd.results7, go_sem, z0, z1, z2, z3]
end Go.Proofs.YtdnjfdkjjenmdaaDoor
