/- limbecklaw02.FaultStays: the walk. -/
import Derived.Test.YtdnjfdkjjenmdaaDoorFTells
namespace Go.Proofs.YtdnjfdkjjenmdaaDoor
open Go.RowKit Go.Sort
def Stay (c a : Int) (e : Er) : Prop := e.isNil = false ∧ e.plc = some (c, a) ∧ e.isIn c = true ∧ ∀ x, e.defFrom x = ⟨#[102, 105, 114, 115, 116]⟩
theorem Stay.str {c a : Int} {e : Er} (h : Stay c a e) (b : Nat) : Stay c a (.str b e) := ⟨rfl, h.2⟩
theorem Stay.nam {c a : Int} {e : Er} (h : Stay c a e) (b : Nat) (d : ByteArray) : Stay c a (.nam b d e) := ⟨rfl, h.2.1, h.2.2.1, fun _ => h.2.2.2 d⟩
theorem Stay.all {c a : Int} {e : Er} (h : Stay c a e) (hc : (c == 0) = false) : e.code = c ∧ e.pos = a ∧ e.defFrom ⟨#[]⟩ = ⟨#[102, 105, 114, 115, 116]⟩ ∧ e.isCode c = true := by
  obtain ⟨h1, h2, h3, h4⟩ := h
  refine ⟨?_, ?_, h4 _, ?_⟩
  · unfold Er.code; rw [h1, h2]; simp [hc]
  · unfold Er.pos; rw [h2]; simp [hc]
  · unfold Er.isCode; rw [h1, h3]; rfl
def SRel (c a : Int) (n : Nat) (w : World) (gk : Nat) (p7 p8 : Value) (wr : World) : Prop :=
  ∃ (e : Er) (k : Nat), p7 = e.val ∧ p8 = .int .i64 k ∧ k + gk = n ∧ e.At wr ∧ Stay c a e ∧ Below w.heap.size w wr
set_option maxRecDepth 8000 in
set_option maxHeartbeats 4000000 in
theorem stays_any (c a : Int) (v : Value) (ws : List (ByteArray × Bool)) (w : World) (h : WrapsAt w v ws) (hg : w.cell? ⟨0, 0, none⟩ = some (.iface 66 (.agg #[.pointer (some ⟨1, 26, none⟩)]))) :
    Calls Tryd.prog 4 #[.int .i64 c, .int .i64 a, v] w fun e w' => e = .returned (.bool true) ∧ Below w.heap.size w w' := by
  obtain ⟨a0, cap, n, rfl, HC⟩ : ∃ a0 cap n, v = .slice a0 n cap ∧ ∀ j, j < n → ∃ b off, a0 = some ⟨b, off, none⟩ ∧ w.cell? ⟨b, off + j * 2, none⟩ = some (.string (wAt ws j).1) ∧ w.cell? ⟨b, off + j * 2 + 1, none⟩ = some (.bool (wAt ws j).2) := by
    rcases h with ⟨a0, cap, h1, h2⟩ | ⟨b, off, cap, h1, h2, h3⟩
    · exact ⟨a0, cap, 0, h1, fun j hj => by omega⟩
    · exact ⟨_, cap, _, h1, fun j hj => ⟨b, off, rfl, h3 j hj⟩⟩
  clear h
  have H : Aside ((∀ j, j < n → ∃ b off, a0 = some ⟨b, off, none⟩ ∧ w.cell? ⟨b, off + j * 2, none⟩ = some (.string (wAt ws j).1) ∧ w.cell? ⟨b, off + j * 2 + 1, none⟩ = some (.bool (wAt ws j).2)) ∧ w.cell? ⟨0, 0, none⟩ = some (.iface 66 (.agg #[.pointer (some ⟨1, 26, none⟩)]))) := ⟨HC, hg⟩
  clear HC hg
  by_cases hl : 40 < n
  · go_enter Tryd.func4, Tryd.ntmps4
    go_wp2_with fail
    refine (awake_any _ H.out.2).mono ?_; rintro ev w1 ⟨rfl, hb1⟩
    go_wp2_with fail
    go_ret
    exact ⟨rfl, hb1⟩
  rcases Bool.eq_false_or_eq_true (c == 0) with hc | hc
  · go_enter Tryd.func4, Tryd.ntmps4
    go_wp2_with fail
    refine (awake_any _ H.out.2).mono ?_; rintro ev w1 ⟨rfl, hb1⟩
    go_wp2_with fail
    go_ret
    exact ⟨rfl, hb1⟩
  have HCZ : Aside ((c == 0) = false) := hc
  have hnew : newE c a = .placed c a := by unfold newE; rw [hc]; rfl
  have NW : Aside (newE c a = .placed c a) := hnew
  clear hnew
  go_enter Tryd.func4, Tryd.ntmps4
  go_wp2_with fail
  refine (new_any c a _).mono ?_; rintro ev w1 ⟨rfl, rfl⟩; rw [NW.out]
  go_wp2_with fail
  refine (in_any ⟨#[102, 105, 114, 115, 116]⟩ (.placed c a) _ trivial).mono ?_; rintro ev w2 ⟨hb2, h2⟩
  obtain ⟨rfl, hx⟩ : ev = .returned (Er.nam w.heap.size ⟨#[102, 105, 114, 115, 116]⟩ (.placed c a)).val ∧ (Er.nam w.heap.size ⟨#[102, 105, 114, 115, 116]⟩ (.placed c a)).At w2 := h2
  have hS : Stay c a (Er.nam w.heap.size ⟨#[102, 105, 114, 115, 116]⟩ (.placed c a)) := ⟨rfl, rfl, by simp [Er.isIn], fun _ => rfl⟩
  generalize Er.nam w.heap.size ⟨#[102, 105, 114, 115, 116]⟩ (.placed c a) = e at hx hS
  have A0 : Aside (e.At w2 ∧ Stay c a e ∧ Below w.heap.size w w2) := ⟨hx, hS, hb2⟩
  clear hx hS hb2
  go_wp2_with fail
  go_loopg [7, 8] n (fun k p7 p8 wr => SRel c a n w k p7 p8 wr)
  case atStart => exact ⟨e, 0, rfl, rfl, by omega, A0.out.1, A0.out.2.1, A0.out.2.2⟩
  case round =>
    obtain ⟨x, k, rfl, rfl, hgk, hx, hS, hb⟩ := hrel
    have A : Aside (k + gk = n ∧ x.At wr ∧ Stay c a x ∧ Below w.heap.size w wr ∧ ¬ 40 < n) := ⟨hgk, hx, hS, hb, hl⟩
    clear hgk hx hS hb
    by_cases hlt : k < n
    · obtain ⟨b, off, rfl, h1, h2⟩ := H.out.1 k hlt
      have h1 := below_cellOf A.out.2.2.2.1 h1
      have h2 := below_cellOf A.out.2.2.2.1 h2
      generalize (wAt ws k).1 = d at h1
      generalize (wAt ws k).2 = bb at h2
      rcases Bool.eq_false_or_eq_true bb with rfl | rfl
      · have hEs := A.out.2.2.1.str wr.heap.size
        have hB : Below wr.heap.size wr (wr.alloc (.cells #[x.val] 47)) := (Below.refl _ _).alloc (Nat.le_refl _) _
        have hAt : (Er.str wr.heap.size x).At (wr.alloc (.cells #[x.val] 47)) := ⟨cell_alloc_newN _ _ _ 0 _ rfl, A.out.2.1.mono hB⟩
        have hval : (Er.str wr.heap.size x).val = .iface 45 (.pointer (some ⟨wr.heap.size, 0, none⟩)) := rfl
        obtain ⟨et, ev, hev⟩ := x.val_iface A.out.2.2.1.1
        rw [hev] at hB hAt ⊢
        obtain ⟨g1, g2, g3, g4⟩ := hEs.all HCZ.out
        have F : Aside ((Er.str wr.heap.size x).code = c ∧ (Er.str wr.heap.size x).pos = a ∧ (Er.str wr.heap.size x).defFrom ⟨#[]⟩ = ⟨#[102, 105, 114, 115, 116]⟩ ∧ (Er.str wr.heap.size x).isCode c = true ∧ (Er.str wr.heap.size x).At (wr.alloc (.cells #[.iface et ev] 47)) ∧ Below w.heap.size w (wr.alloc (.cells #[.iface et ev] 47))) := ⟨g1, g2, g3, g4, hAt, A.out.2.2.2.1.trans (hB.mono A.out.2.2.2.1.size)⟩
        have FS : Aside (Stay c a (Er.str wr.heap.size x)) := hEs
        clear hEs hB hAt hval g1 g2 g3 g4 hev
        go_wp2_with fail
        generalize (wr.alloc (.cells #[.iface et ev] 47)) = wn at F ⊢
        refine (code_any (Er.str wr.heap.size x) _ F.out.2.2.2.2.1 (below_cellOf F.out.2.2.2.2.2 H.out.2)).mono ?_; rintro ev w3 ⟨rfl, hb3⟩; rw [F.out.1]
        have A3 : Aside (Below wn.heap.size wn w3 ∧ Below w.heap.size w w3) := ⟨hb3, F.out.2.2.2.2.2.trans (hb3.mono F.out.2.2.2.2.2.size)⟩
        clear hb3
        go_wp2_with fail
        refine (at_any (Er.str wr.heap.size x) _ (F.out.2.2.2.2.1.mono A3.out.1) (below_cellOf A3.out.2 H.out.2)).mono ?_; rintro ev w4 ⟨rfl, hb4⟩; rw [F.out.2.1]
        have A4 : Aside (Below wn.heap.size wn w4 ∧ Below w.heap.size w w4) := ⟨A3.out.1.trans (hb4.mono A3.out.1.size), A3.out.2.trans (hb4.mono A3.out.2.size)⟩
        clear hb4
        go_wp2_with fail
        refine (def_any (Er.str wr.heap.size x) _ (F.out.2.2.2.2.1.mono A4.out.1) (below_cellOf A4.out.2 H.out.2)).mono ?_; rintro ev w5 ⟨rfl, hb5⟩; rw [F.out.2.2.1]
        have A5 : Aside (Below wn.heap.size wn w5 ∧ Below w.heap.size w w5) := ⟨A4.out.1.trans (hb5.mono A4.out.1.size), A4.out.2.trans (hb5.mono A4.out.2.size)⟩
        clear hb5
        go_wp2_with fail
        refine (fis_any (Er.str wr.heap.size x) c _ (F.out.2.2.2.2.1.mono A5.out.1)).mono ?_; rintro ev w6 ⟨rfl, hb6⟩; rw [F.out.2.2.2.1]
        have A6 : Aside (Below wn.heap.size wn w6 ∧ Below w.heap.size w w6) := ⟨A5.out.1.trans (hb6.mono A5.out.1.size), A5.out.2.trans (hb6.mono A5.out.2.size)⟩
        clear hb6
        go_wp2_with fail
        go_roundg (gk - 1)
        case measure => have := A.out.1; omega
        case rel => exact ⟨(Er.str wr.heap.size x), k + 1, rfl, by go_num, by have := A.out.1; omega, F.out.2.2.2.2.1.mono A6.out.1, FS.out, A6.out.2⟩
      · have hin : Calls Tryd.prog 16 #[.string d, x.val] wr fun ev w' => Below wr.heap.size wr w' ∧ ∃ e' : Er, ev = .returned e'.val ∧ e'.At w' ∧ Stay c a e' := by
          refine (in_any d x wr A.out.2.1).mono ?_
          rintro ev w' ⟨hb, hh⟩
          rw [if_neg (by simp [A.out.2.2.1.1])] at hh
          exact ⟨hb, _, hh.1, hh.2, A.out.2.2.1.nam _ d⟩
        go_wp2_with fail
        refine hin.mono ?_
        clear hin
        rintro ev wn ⟨hbn, y, rfl, hAt, hSy⟩
        obtain ⟨g1, g2, g3, g4⟩ := hSy.all HCZ.out
        have F : Aside (y.code = c ∧ y.pos = a ∧ y.defFrom ⟨#[]⟩ = ⟨#[102, 105, 114, 115, 116]⟩ ∧ y.isCode c = true ∧ y.At wn ∧ Below w.heap.size w wn) := ⟨g1, g2, g3, g4, hAt, A.out.2.2.2.1.trans (hbn.mono A.out.2.2.2.1.size)⟩
        have FS : Aside (Stay c a y) := hSy
        have eg := egNil y FS.out.1
        have en := eqNilVal y FS.out.1
        clear hbn hAt hSy g1 g2 g3 g4
        go_wp2_with fail
        refine (code_any y _ F.out.2.2.2.2.1 (below_cellOf F.out.2.2.2.2.2 H.out.2)).mono ?_; rintro ev w3 ⟨rfl, hb3⟩; rw [F.out.1]
        have A3 : Aside (Below wn.heap.size wn w3 ∧ Below w.heap.size w w3) := ⟨hb3, F.out.2.2.2.2.2.trans (hb3.mono F.out.2.2.2.2.2.size)⟩
        clear hb3
        go_wp2_with fail
        refine (at_any y _ (F.out.2.2.2.2.1.mono A3.out.1) (below_cellOf A3.out.2 H.out.2)).mono ?_; rintro ev w4 ⟨rfl, hb4⟩; rw [F.out.2.1]
        have A4 : Aside (Below wn.heap.size wn w4 ∧ Below w.heap.size w w4) := ⟨A3.out.1.trans (hb4.mono A3.out.1.size), A3.out.2.trans (hb4.mono A3.out.2.size)⟩
        clear hb4
        go_wp2_with fail
        refine (def_any y _ (F.out.2.2.2.2.1.mono A4.out.1) (below_cellOf A4.out.2 H.out.2)).mono ?_; rintro ev w5 ⟨rfl, hb5⟩; rw [F.out.2.2.1]
        have A5 : Aside (Below wn.heap.size wn w5 ∧ Below w.heap.size w w5) := ⟨A4.out.1.trans (hb5.mono A4.out.1.size), A4.out.2.trans (hb5.mono A4.out.2.size)⟩
        clear hb5
        go_wp2_with fail
        refine (fis_any y c _ (F.out.2.2.2.2.1.mono A5.out.1)).mono ?_; rintro ev w6 ⟨rfl, hb6⟩; rw [F.out.2.2.2.1]
        have A6 : Aside (Below wn.heap.size wn w6 ∧ Below w.heap.size w w6) := ⟨A5.out.1.trans (hb6.mono A5.out.1.size), A5.out.2.trans (hb6.mono A5.out.2.size)⟩
        clear hb6
        go_wp2_with fail
        go_roundg (gk - 1)
        case measure => have := A.out.1; omega
        case rel => exact ⟨y, k + 1, rfl, by go_num, by have := A.out.1; omega, F.out.2.2.2.2.1.mono A6.out.1, FS.out, A6.out.2⟩
    · go_wp2_with fail
      refine (awake_any _ (below_cellOf A.out.2.2.2.1 H.out.2)).mono ?_; rintro ev w7 ⟨rfl, hb7⟩
      have A7 : Aside (Below w.heap.size w w7) := A.out.2.2.2.1.trans (hb7.mono A.out.2.2.2.1.size)
      clear hb7
      go_wp2_with fail
      go_ret
      exact ⟨rfl, A7.out⟩
end Go.Proofs.YtdnjfdkjjenmdaaDoor
