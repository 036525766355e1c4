/- tyfmt.show and tyfmt.Show. -/
import Derived.Test.YtiajemakpdpnaaaDoorPwWr
namespace Go.Proofs.YtiajemakpdpnaaaDoor
open Go.RowKit Pv
/-- The text of any type: none, if it is not right. -/
def shT (t : Ty5) : List UInt8 := if rightT varB risingB t = true then showT t else []
theorem right_cp (t : Ty5) (ho : okT t) : CP (TT ()) 32 [tyD t] (· = .raw (.bool (rightT varB risingB t))) :=
  cp_raw (callable_at Tryd.func32 (by kernel_rfl) rfl) fun S w args r => by
    obtain ⟨v, rfl, h⟩ := rdL_one r
    obtain ⟨v0, v1, v2, v3, v4, rfl, hT⟩ := ty_in t ho h
    exact pright_any t v0 v1 v2 v3 v4 w hT
theorem show_step (t : Ty5) (ho : okT t) (S : List UInt8) (hr : S.length + (shT t).length ≤ 140737488355328) : Step 19 [tyD t, addD] S (S ++ shT t) := by
  have hc := right_cp t ho
  have hw : rightT varB risingB t = true → Step 33 [tyD t, addD] S (S ++ shT t) := fun h => by
    unfold shT at hr ⊢
    rw [if_pos h] at hr ⊢
    exact write_any t h S hr
  have hno : rightT varB risingB t = false → S ++ shT t = S := fun h => by
    unfold shT
    rw [h]
    simp
  have hp := ty_pure t
  generalize S ++ shT t = T at hw hno ⊢
  generalize rightT varB risingB t = q at hc hw hno
  obtain ⟨k, n, nm, L, K, f0, g0, i0, j0⟩ := ty_node t
  rw [f0] at hc hw hp ⊢
  refine Step.run (by simp [idbL, idb, i0, j0, addD]) fun c0 c1 hG Q hQ => ?_
  unfold addD at hw ⊢
  cbv
  (repeat' (first | (refine Pv.StatK.go (by kernel_rfl) (by kernel_rfl) ?_; cbv) | (refine Pv.DrawK.go 0 (by decide +kernel) ?_; cbv) | (refine Pv.DrawK.go 1 (by decide +kernel) ?_; cbv) | (refine Pv.DrawK.go 2 (by decide +kernel) ?_; cbv) | (refine Pv.LineK.go 0 (by decide +kernel) (by kernel_rfl) ?_; cbv) | (refine Pv.LineK.go 1 (by decide +kernel) (by kernel_rfl) ?_; cbv) | (refine Pv.LenK.intro ?_; intro _ _ _; cbv) | (refine Pv.LenNK.intro ?_; intro _ _ _; cbv) | (refine Pv.BinK.lssT (by omega) ?_; cbv) | (refine Pv.BinK.lssF (by omega) ?_; cbv) | (refine Pv.BinK.leqT (by omega) ?_; cbv) | (refine Pv.BinK.leqF (by omega) ?_; cbv) | (refine Pv.BinK.gtrT (by omega) ?_; cbv) | (refine Pv.BinK.gtrF (by omega) ?_; cbv) | (refine Pv.BinK.geqT (by omega) ?_; cbv) | (refine Pv.BinK.geqF (by omega) ?_; cbv) | (refine Pv.BinK.eqlT (by omega) ?_; cbv) | (refine Pv.BinK.eqlF (by omega) ?_; cbv) | (refine Pv.BinK.neqT (by omega) ?_; cbv) | (refine Pv.BinK.neqF (by omega) ?_; cbv) | (refine Pv.BinK.add (by omega) ?_; intro _ _; cbv) | (refine Pv.BinK.sub (by omega) ?_; intro _ _; cbv)))
  refine CallK.one hc (cons_pure hp rfl) rfl ?_
  rcases q with _ | _
  · rw [hno rfl] at hQ
    cbv
    (repeat' (first | (refine Pv.StatK.go (by kernel_rfl) (by kernel_rfl) ?_; cbv) | (refine Pv.DrawK.go 0 (by decide +kernel) ?_; cbv) | (refine Pv.DrawK.go 1 (by decide +kernel) ?_; cbv) | (refine Pv.DrawK.go 2 (by decide +kernel) ?_; cbv) | (refine Pv.LineK.go 0 (by decide +kernel) (by kernel_rfl) ?_; cbv) | (refine Pv.LineK.go 1 (by decide +kernel) (by kernel_rfl) ?_; cbv) | (refine Pv.LenK.intro ?_; intro _ _ _; cbv) | (refine Pv.LenNK.intro ?_; intro _ _ _; cbv) | (refine Pv.BinK.lssT (by omega) ?_; cbv) | (refine Pv.BinK.lssF (by omega) ?_; cbv) | (refine Pv.BinK.leqT (by omega) ?_; cbv) | (refine Pv.BinK.leqF (by omega) ?_; cbv) | (refine Pv.BinK.gtrT (by omega) ?_; cbv) | (refine Pv.BinK.gtrF (by omega) ?_; cbv) | (refine Pv.BinK.geqT (by omega) ?_; cbv) | (refine Pv.BinK.geqF (by omega) ?_; cbv) | (refine Pv.BinK.eqlT (by omega) ?_; cbv) | (refine Pv.BinK.eqlF (by omega) ?_; cbv) | (refine Pv.BinK.neqT (by omega) ?_; cbv) | (refine Pv.BinK.neqF (by omega) ?_; cbv) | (refine Pv.BinK.add (by omega) ?_; intro _ _; cbv) | (refine Pv.BinK.sub (by omega) ?_; intro _ _; cbv)))
    exact ⟨hQ _ _ _ hG⟩
  · cbv
    (repeat' (first | (refine Pv.StatK.go (by kernel_rfl) (by kernel_rfl) ?_; cbv) | (refine Pv.DrawK.go 0 (by decide +kernel) ?_; cbv) | (refine Pv.DrawK.go 1 (by decide +kernel) ?_; cbv) | (refine Pv.DrawK.go 2 (by decide +kernel) ?_; cbv) | (refine Pv.LineK.go 0 (by decide +kernel) (by kernel_rfl) ?_; cbv) | (refine Pv.LineK.go 1 (by decide +kernel) (by kernel_rfl) ?_; cbv) | (refine Pv.LenK.intro ?_; intro _ _ _; cbv) | (refine Pv.LenNK.intro ?_; intro _ _ _; cbv) | (refine Pv.BinK.lssT (by omega) ?_; cbv) | (refine Pv.BinK.lssF (by omega) ?_; cbv) | (refine Pv.BinK.leqT (by omega) ?_; cbv) | (refine Pv.BinK.leqF (by omega) ?_; cbv) | (refine Pv.BinK.gtrT (by omega) ?_; cbv) | (refine Pv.BinK.gtrF (by omega) ?_; cbv) | (refine Pv.BinK.geqT (by omega) ?_; cbv) | (refine Pv.BinK.geqF (by omega) ?_; cbv) | (refine Pv.BinK.eqlT (by omega) ?_; cbv) | (refine Pv.BinK.eqlF (by omega) ?_; cbv) | (refine Pv.BinK.neqT (by omega) ?_; cbv) | (refine Pv.BinK.neqF (by omega) ?_; cbv) | (refine Pv.BinK.add (by omega) ?_; intro _ _; cbv) | (refine Pv.BinK.sub (by omega) ?_; intro _ _; cbv)))
    refine CallK.mut (hw rfl _ _ _ hG) ?_
    rintro d h' ⟨rfl, e0, e1, hG1, rfl⟩
    cbv
    (repeat' (first | (refine Pv.StatK.go (by kernel_rfl) (by kernel_rfl) ?_; cbv) | (refine Pv.DrawK.go 0 (by decide +kernel) ?_; cbv) | (refine Pv.DrawK.go 1 (by decide +kernel) ?_; cbv) | (refine Pv.DrawK.go 2 (by decide +kernel) ?_; cbv) | (refine Pv.LineK.go 0 (by decide +kernel) (by kernel_rfl) ?_; cbv) | (refine Pv.LineK.go 1 (by decide +kernel) (by kernel_rfl) ?_; cbv) | (refine Pv.LenK.intro ?_; intro _ _ _; cbv) | (refine Pv.LenNK.intro ?_; intro _ _ _; cbv) | (refine Pv.BinK.lssT (by omega) ?_; cbv) | (refine Pv.BinK.lssF (by omega) ?_; cbv) | (refine Pv.BinK.leqT (by omega) ?_; cbv) | (refine Pv.BinK.leqF (by omega) ?_; cbv) | (refine Pv.BinK.gtrT (by omega) ?_; cbv) | (refine Pv.BinK.gtrF (by omega) ?_; cbv) | (refine Pv.BinK.geqT (by omega) ?_; cbv) | (refine Pv.BinK.geqF (by omega) ?_; cbv) | (refine Pv.BinK.eqlT (by omega) ?_; cbv) | (refine Pv.BinK.eqlF (by omega) ?_; cbv) | (refine Pv.BinK.neqT (by omega) ?_; cbv) | (refine Pv.BinK.neqF (by omega) ?_; cbv) | (refine Pv.BinK.add (by omega) ?_; intro _ _; cbv) | (refine Pv.BinK.sub (by omega) ?_; intro _ _; cbv)))
    exact ⟨hQ _ _ _ hG1⟩
/-! ### The same, with a box ahead of the builder -/
abbrev sh1 : Nat → Nat := fun i => i + 1
def add1D : D := .fn (.func 28) [] [.bx 1 0]
def text1D : D := .fn (.func 30) [] [.bx 1 0]
/-- A step, a box ahead. -/
theorem Step.ahead {k : FuncId} {ds es : List D} {S T : List UInt8} (h : Step k ds S T) (he : es = renL sh1 ds) (hid : idbL 2 ds = true) (b c0 c1 : Cell) (hG : GB S c0 c1) :
    CW (TT ()) k es [b, renC sh1 c0, renC sh1 c1] fun d h' => d = .tup [] ∧ ∃ e0 e1, GB T e0 e1 ∧ h' = [b, renC sh1 e0, renC sh1 e1] := by
  have hi := hG.idb (m := 2) (by decide)
  refine ((h [] c0 c1 hG).frame (h := [b, renC sh1 c0, renC sh1 c1]) sh1 he hid (by simp [hi]) (fun i j _ _ e => by simp only [sh1] at e; omega) (fun i hi => ?_) ?_).mono ?_
  · match i, hi with
    | 0, _ => rfl
    | 1, _ => rfl
    | n + 2, hi => exact absurd hi (by show ¬ (n + 2 < 2); omega)
  · rintro d h' ⟨rfl, e0, e1, hE, rfl⟩
    have := hE.idb (m := 2) (by decide)
    exact ⟨rfl, rfl, by simp [this]⟩
  · rintro d h' ⟨d0, h0', ⟨rfl, e0, e1, hE, rfl⟩, rfl, rfl⟩
    exact ⟨rfl, e0, e1, hE, rfl⟩
theorem text_ahead (S : List UInt8) (b c0 c1 : Cell) (hG : GB S c0 c1) : CW (TT ()) 30 [.bx 1 0] [b, renC sh1 c0, renC sh1 c1] fun d h' => d = .raw (.string ⟨S.toArray⟩) ∧ h' = [b, .dead, .dead] := by
  obtain ⟨u, hu⟩ := hG
  refine ((text_cw u S).frame (h := [b, renC sh1 c0, renC sh1 c1]) sh1 rfl rfl (bld_idb u S) (fun i j _ _ e => by simp only [sh1] at e; omega) (fun i hi => ?_) ?_).mono ?_
  · rw [← hu]
    match i, hi with
    | 0, _ => rfl
    | 1, _ => rfl
    | n + 2, hi => exact absurd hi (by show ¬ (n + 2 < 2); omega)
  · rintro d h' ⟨rfl, rfl⟩
    exact ⟨rfl, rfl, rfl⟩
  · rintro d h' ⟨d0, h0', ⟨rfl, rfl⟩, rfl, rfl⟩
    exact ⟨rfl, rfl⟩
set_option maxRecDepth 20000 in
theorem colb_run (b : Cell) (Q : D → H → Prop) (hQ : Q (.tup [add1D, text1D]) [b, .box 54 [.raw (.pointer none), .raw (.slice none 0 0)]]) : wfun TT 18 [] [b] Q := by
  unfold add1D text1D at hQ
  cbv
  (repeat' (first | (refine Pv.StatK.go (by kernel_rfl) (by kernel_rfl) ?_; cbv) | (refine Pv.DrawK.go 0 (by decide +kernel) ?_; cbv) | (refine Pv.DrawK.go 1 (by decide +kernel) ?_; cbv) | (refine Pv.DrawK.go 2 (by decide +kernel) ?_; cbv) | (refine Pv.LineK.go 0 (by decide +kernel) (by kernel_rfl) ?_; cbv) | (refine Pv.LineK.go 1 (by decide +kernel) (by kernel_rfl) ?_; cbv) | (refine Pv.LenK.intro ?_; intro _ _ _; cbv) | (refine Pv.LenNK.intro ?_; intro _ _ _; cbv) | (refine Pv.BinK.lssT (by omega) ?_; cbv) | (refine Pv.BinK.lssF (by omega) ?_; cbv) | (refine Pv.BinK.leqT (by omega) ?_; cbv) | (refine Pv.BinK.leqF (by omega) ?_; cbv) | (refine Pv.BinK.gtrT (by omega) ?_; cbv) | (refine Pv.BinK.gtrF (by omega) ?_; cbv) | (refine Pv.BinK.geqT (by omega) ?_; cbv) | (refine Pv.BinK.geqF (by omega) ?_; cbv) | (refine Pv.BinK.eqlT (by omega) ?_; cbv) | (refine Pv.BinK.eqlF (by omega) ?_; cbv) | (refine Pv.BinK.neqT (by omega) ?_; cbv) | (refine Pv.BinK.neqF (by omega) ?_; cbv) | (refine Pv.BinK.add (by omega) ?_; intro _ _; cbv) | (refine Pv.BinK.sub (by omega) ?_; intro _ _; cbv)))
  exact ⟨hQ⟩
theorem colb_cw (b : Cell) : CW (TT ()) 18 [] [b] fun d h' => d = .tup [add1D, text1D] ∧ ∃ c0 c1, GB [] c0 c1 ∧ h' = [b, renC sh1 c0, renC sh1 c1] := by
  have c := wfun_ok (T := TT) (by kernel_rfl) (colb_run b (fun d h' => d = .tup [add1D, text1D] ∧ h' = [b, .box 54 [.raw (.pointer none), .raw (.slice none 0 0)]]) ⟨rfl, rfl⟩)
  refine ⟨c.1, fun C w args s r => (c.2 C w args s r).mono ?_⟩
  rintro e w' ⟨v, C', d, h', h1, ⟨rfl, rfl⟩, f, s', r'⟩
  obtain ⟨C2, f2, s2, hl⟩ := s'.log_nil 5 1
  refine ⟨v, C2, _, [b, .box 54 [.raw (.pointer none), .sl (some 2) 1 []], .log 5 1 0], h1, ⟨rfl, _, _, ⟨false, rfl⟩, rfl⟩, f.trans f2, s2.weak rfl (fun id t ds' e => ?_) (fun id e sz n e' => ?_), r'.mono f2.toEv⟩
  · match id, e with
    | 0, e => exact ⟨ds', e, fun vs h => h⟩
    | 1, e =>
      cases e
      refine ⟨_, rfl, ?_⟩
      rintro vs ⟨v0, rest, rfl, h0, v1, rest', rfl, h1, h2⟩
      simp only [Pv.Rd] at h1
      refine ⟨_, _, rfl, h0, _, _, rfl, ⟨⟨none, 0, by rw [h1]; rfl, Nat.le_refl _, Nat.zero_le _⟩, fun h => absurd h (by simp), fun id e => ?_⟩, h2⟩
      cases e
      exact ⟨.slice none 0 0, hl, by simp, fun _ => h1⟩
    | 2, e => cases e
    | n + 3, e => simp at e
  · match id, e' with
    | 0, e => exact e
    | 1, e => cases e
    | 2, e => cases e; rfl
    | n + 3, e => simp at e
set_option maxRecDepth 20000 in
theorem showp_cp (t : Ty5) (ho : okT t) (hr : (shT t).length ≤ 140737488355328) : CP (TT ()) 8 [tyD t] (· = .raw (.string ⟨(shT t).toArray⟩)) := by
  have hs := show_step t ho [] (by simpa using hr)
  obtain ⟨k, n, nm, L, K, f0, g0, i0, j0⟩ := ty_node t
  have hp := ty_pure t
  have hre := pure_ren sh1 _ hp
  rw [f0] at hs hp hre ⊢
  rw [List.nil_append] at hs
  have hs1 := fun b c0 c1 hG => hs.ahead (es := [nodeD k n nm L K, add1D]) (by simp only [renL, hre]; rfl) (by simp [idbL, idb, i0, j0, addD]) b c0 c1 hG
  have ht1 := text_ahead (shT t)
  have hc := colb_cw
  generalize shT t = T at hs1 ht1 ⊢
  generalize (⟨T.toArray⟩ : ByteArray) = z at ht1 ⊢
  suffices hw : ∀ Q : D → H → Prop, (∀ h', Q (.raw (.string z)) h') → wfun TT 8 [nodeD k n nm L K] [] Q from
    (wfun_ok (T := TT) (by kernel_rfl) (hw (fun d _ => d = .raw (.string z)) fun _ => rfl)).cp fun d h' h => ⟨d, by rw [h]; rfl, h⟩
  intro Q hQ
  unfold add1D at hs1 hc
  unfold text1D at hc
  cbv
  (repeat' (first | (refine Pv.StatK.go (by kernel_rfl) (by kernel_rfl) ?_; cbv) | (refine Pv.DrawK.go 0 (by decide +kernel) ?_; cbv) | (refine Pv.DrawK.go 1 (by decide +kernel) ?_; cbv) | (refine Pv.DrawK.go 2 (by decide +kernel) ?_; cbv) | (refine Pv.LineK.go 0 (by decide +kernel) (by kernel_rfl) ?_; cbv) | (refine Pv.LineK.go 1 (by decide +kernel) (by kernel_rfl) ?_; cbv) | (refine Pv.LenK.intro ?_; intro _ _ _; cbv) | (refine Pv.LenNK.intro ?_; intro _ _ _; cbv) | (refine Pv.BinK.lssT (by omega) ?_; cbv) | (refine Pv.BinK.lssF (by omega) ?_; cbv) | (refine Pv.BinK.leqT (by omega) ?_; cbv) | (refine Pv.BinK.leqF (by omega) ?_; cbv) | (refine Pv.BinK.gtrT (by omega) ?_; cbv) | (refine Pv.BinK.gtrF (by omega) ?_; cbv) | (refine Pv.BinK.geqT (by omega) ?_; cbv) | (refine Pv.BinK.geqF (by omega) ?_; cbv) | (refine Pv.BinK.eqlT (by omega) ?_; cbv) | (refine Pv.BinK.eqlF (by omega) ?_; cbv) | (refine Pv.BinK.neqT (by omega) ?_; cbv) | (refine Pv.BinK.neqF (by omega) ?_; cbv) | (refine Pv.BinK.add (by omega) ?_; intro _ _; cbv) | (refine Pv.BinK.sub (by omega) ?_; intro _ _; cbv)))
  refine CallK.mut (hc _) ?_
  rintro d h' ⟨rfl, c0, c1, hG, rfl⟩
  have h1 := fun b => hs1 b c0 c1 hG
  generalize renC sh1 c0 = x0 at h1 ⊢
  generalize renC sh1 c1 = x1 at h1 ⊢
  cbv
  (repeat' (first | (refine Pv.StatK.go (by kernel_rfl) (by kernel_rfl) ?_; cbv) | (refine Pv.DrawK.go 0 (by decide +kernel) ?_; cbv) | (refine Pv.DrawK.go 1 (by decide +kernel) ?_; cbv) | (refine Pv.DrawK.go 2 (by decide +kernel) ?_; cbv) | (refine Pv.LineK.go 0 (by decide +kernel) (by kernel_rfl) ?_; cbv) | (refine Pv.LineK.go 1 (by decide +kernel) (by kernel_rfl) ?_; cbv) | (refine Pv.LenK.intro ?_; intro _ _ _; cbv) | (refine Pv.LenNK.intro ?_; intro _ _ _; cbv) | (refine Pv.BinK.lssT (by omega) ?_; cbv) | (refine Pv.BinK.lssF (by omega) ?_; cbv) | (refine Pv.BinK.leqT (by omega) ?_; cbv) | (refine Pv.BinK.leqF (by omega) ?_; cbv) | (refine Pv.BinK.gtrT (by omega) ?_; cbv) | (refine Pv.BinK.gtrF (by omega) ?_; cbv) | (refine Pv.BinK.geqT (by omega) ?_; cbv) | (refine Pv.BinK.geqF (by omega) ?_; cbv) | (refine Pv.BinK.eqlT (by omega) ?_; cbv) | (refine Pv.BinK.eqlF (by omega) ?_; cbv) | (refine Pv.BinK.neqT (by omega) ?_; cbv) | (refine Pv.BinK.neqF (by omega) ?_; cbv) | (refine Pv.BinK.add (by omega) ?_; intro _ _; cbv) | (refine Pv.BinK.sub (by omega) ?_; intro _ _; cbv)))
  refine CallK.mut (h1 _) ?_
  rintro d h' ⟨rfl, e0, e1, hE, rfl⟩
  have h2 := fun b => ht1 b e0 e1 hE
  generalize renC sh1 e0 = y0 at h2 ⊢
  generalize renC sh1 e1 = y1 at h2 ⊢
  cbv
  (repeat' (first | (refine Pv.StatK.go (by kernel_rfl) (by kernel_rfl) ?_; cbv) | (refine Pv.DrawK.go 0 (by decide +kernel) ?_; cbv) | (refine Pv.DrawK.go 1 (by decide +kernel) ?_; cbv) | (refine Pv.DrawK.go 2 (by decide +kernel) ?_; cbv) | (refine Pv.LineK.go 0 (by decide +kernel) (by kernel_rfl) ?_; cbv) | (refine Pv.LineK.go 1 (by decide +kernel) (by kernel_rfl) ?_; cbv) | (refine Pv.LenK.intro ?_; intro _ _ _; cbv) | (refine Pv.LenNK.intro ?_; intro _ _ _; cbv) | (refine Pv.BinK.lssT (by omega) ?_; cbv) | (refine Pv.BinK.lssF (by omega) ?_; cbv) | (refine Pv.BinK.leqT (by omega) ?_; cbv) | (refine Pv.BinK.leqF (by omega) ?_; cbv) | (refine Pv.BinK.gtrT (by omega) ?_; cbv) | (refine Pv.BinK.gtrF (by omega) ?_; cbv) | (refine Pv.BinK.geqT (by omega) ?_; cbv) | (refine Pv.BinK.geqF (by omega) ?_; cbv) | (refine Pv.BinK.eqlT (by omega) ?_; cbv) | (refine Pv.BinK.eqlF (by omega) ?_; cbv) | (refine Pv.BinK.neqT (by omega) ?_; cbv) | (refine Pv.BinK.neqF (by omega) ?_; cbv) | (refine Pv.BinK.add (by omega) ?_; intro _ _; cbv) | (refine Pv.BinK.sub (by omega) ?_; intro _ _; cbv)))
  refine CallK.mut (h2 _) ?_
  rintro d h' ⟨rfl, rfl⟩
  cbv
  (repeat' (first | (refine Pv.StatK.go (by kernel_rfl) (by kernel_rfl) ?_; cbv) | (refine Pv.DrawK.go 0 (by decide +kernel) ?_; cbv) | (refine Pv.DrawK.go 1 (by decide +kernel) ?_; cbv) | (refine Pv.DrawK.go 2 (by decide +kernel) ?_; cbv) | (refine Pv.LineK.go 0 (by decide +kernel) (by kernel_rfl) ?_; cbv) | (refine Pv.LineK.go 1 (by decide +kernel) (by kernel_rfl) ?_; cbv) | (refine Pv.LenK.intro ?_; intro _ _ _; cbv) | (refine Pv.LenNK.intro ?_; intro _ _ _; cbv) | (refine Pv.BinK.lssT (by omega) ?_; cbv) | (refine Pv.BinK.lssF (by omega) ?_; cbv) | (refine Pv.BinK.leqT (by omega) ?_; cbv) | (refine Pv.BinK.leqF (by omega) ?_; cbv) | (refine Pv.BinK.gtrT (by omega) ?_; cbv) | (refine Pv.BinK.gtrF (by omega) ?_; cbv) | (refine Pv.BinK.geqT (by omega) ?_; cbv) | (refine Pv.BinK.geqF (by omega) ?_; cbv) | (refine Pv.BinK.eqlT (by omega) ?_; cbv) | (refine Pv.BinK.eqlF (by omega) ?_; cbv) | (refine Pv.BinK.neqT (by omega) ?_; cbv) | (refine Pv.BinK.neqF (by omega) ?_; cbv) | (refine Pv.BinK.add (by omega) ?_; intro _ _; cbv) | (refine Pv.BinK.sub (by omega) ?_; intro _ _; cbv)))
  exact ⟨hQ _⟩
end Go.Proofs.YtiajemakpdpnaaaDoor
